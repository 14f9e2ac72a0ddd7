/- The walk of the law on what sets do to each other. -/
import Derived.Test.YtijnekbhpdcemaaDoorBitsLaw3
import Derived.Deep.RegionHeld3
import Derived.Deep.DrawnRows
import Derived.Deep.DeepCutAuto
import Derived.Outline
namespace Go.Proofs.YtijnekbhpdcemaaDoor
open Go.RowKit
set_option linter.unusedVariables false

def setL (ws : List Nat) : List Value := ws.map (fun x : Nat => Value.int .u64 (x : Int))

/-- three sets laid into three new boxes -/
def boxes3 (w : World) (T : TypeId) (z : Array Value) (x y u : List Nat) : World := (((((w.alloc (.cells z T)).alloc (.cells z T)).alloc (.cells z T)).setRow w.heap.size (setA x)).setRow (w.heap.size + 1) (setA y)).setRow (w.heap.size + 1 + 1) (setA u)
theorem boxes3_b (w : World) (T : TypeId) (z : Array Value) (x : List Nat) : ((((w.alloc (.cells z T)).alloc (.cells z T)).alloc (.cells z T)).setRow w.heap.size (setA x)).heap[w.heap.size + 1]? = some (.cells z T (0, 0)) := by
  rw [setRow_other _ _ _ _ (by omega)]; exact block3_mid w _ _ _
theorem boxes3_c (w : World) (T : TypeId) (z : Array Value) (x y : List Nat) : (((((w.alloc (.cells z T)).alloc (.cells z T)).alloc (.cells z T)).setRow w.heap.size (setA x)).setRow (w.heap.size + 1) (setA y)).heap[w.heap.size + 1 + 1]? = some (.cells z T (0, 0)) := by
  rw [setRow_other _ _ _ _ (by omega), setRow_other _ _ _ _ (by omega)]; exact block3_top w _ _ _
theorem boxes3_at (w : World) (T : TypeId) (z : Array Value) (x y u : List Nat) :
    (boxes3 w T z x y u).heap[w.heap.size]? = some (.cells (setA x) T (0, 0)) ∧ (boxes3 w T z x y u).heap[w.heap.size + 1]? = some (.cells (setA y) T (0, 0)) ∧ (boxes3 w T z x y u).heap[w.heap.size + 1 + 1]? = some (.cells (setA u) T (0, 0)) := by
  unfold boxes3
  refine ⟨?_, ?_, ?_⟩
  · rw [setRow_other _ _ _ _ (by omega), setRow_other _ _ _ _ (by omega)]
    exact setRow_heap _ _ _ _ _ _ (block3_low w _ _ _)
  · rw [setRow_other _ _ _ _ (by omega)]
    exact setRow_heap _ _ _ _ _ _ (boxes3_b w T z x)
  · exact setRow_heap _ _ _ _ _ _ (boxes3_c w T z x y)
theorem boxes3_below (w : World) (T : TypeId) (z : Array Value) (x y u : List Nat) : Below w.heap.size w (boxes3 w T z x y u) :=
  below_setRow (below_setRow (below_setRow ((((Below.refl _ _).alloc (Nat.le_refl _) _).alloc (by simp) _).alloc (by simp; omega) _) (Nat.le_refl _) _) (by omega) _) (by omega) _

theorem zip_same (f g : Nat → Nat → Nat) (x y : List Nat) (h : ∀ a b, f a b = g a b) : List.zipWith f x y = List.zipWith g x y := by
  congr 1; funext a b; exact h a b

theorem dist_words (x y u : List Nat) (hx : x.length = 16) (hy : y.length = 16) (hu : u.length = 16) :
    List.zipWith (· &&& ·) x (List.zipWith (· ||| ·) y u) = List.zipWith (· ||| ·) (List.zipWith (· &&& ·) x y) (List.zipWith (· &&& ·) x u) := by
  apply List.ext_getElem (by simp [hx, hy, hu])
  intro i h1 h2
  simp only [List.getElem_zipWith]
  apply Nat.eq_of_testBit_eq
  intro k
  simp only [Nat.testBit_and, Nat.testBit_or, Bool.and_or_distrib_left]

theorem join_words (x y : List Nat) (hx : x.length = 16) (hy : y.length = 16) :
    List.zipWith (· ||| ·) (List.zipWith (· &&& ·) x y) (List.zipWith (fun a b => a ^^^ (a &&& b)) x y) = x := by
  apply List.ext_getElem (by simp [hx, hy])
  intro i h1 h2
  simp only [List.getElem_zipWith]
  apply Nat.eq_of_testBit_eq
  intro k
  simp only [Nat.testBit_and, Nat.testBit_or, Nat.testBit_xor]
  cases x[i].testBit k <;> simp

theorem countP_or_and (p q : Nat → Bool) (l : List Nat) : l.countP (fun i => p i || q i) + l.countP (fun i => p i && q i) = l.countP p + l.countP q := by
  induction l with
  | nil => rfl
  | cons a l ih =>
    simp only [List.countP_cons]
    cases p a <;> cases q a <;> simp <;> omega

theorem pc_or_and (a b : Nat) : pc (a ||| b) + pc (a &&& b) = pc a + pc b := by
  unfold pc
  have h := countP_or_and a.testBit b.testBit (List.range 64)
  rw [← h]
  congr 1 <;> (apply List.countP_congr; intro i _; simp [Nat.testBit_or, Nat.testBit_and])

theorem len_or_and (x y : List Nat) (hx : x.length = 16) (hy : y.length = 16) (k : Nat) :
    lenTo (List.zipWith (· ||| ·) x y) k + lenTo (List.zipWith (· &&& ·) x y) k = lenTo x k + lenTo y k := by
  induction k with
  | zero => rfl
  | succ k ih =>
    simp only [lenTo]
    have h1 := getD_zip (· ||| ·) x y hx hy k rfl
    have h2 := getD_zip (· &&& ·) x y hx hy k rfl
    have h3 := pc_or_and (x.getD k 0) (y.getD k 0)
    rw [h1, h2]
    omega

theorem len_self (x : List Nat) (hx : x.length = 16) (k : Nat) : lenTo (List.zipWith (fun a b => a ^^^ (a &&& b)) x x) k = 0 := by
  induction k with
  | zero => rfl
  | succ k ih =>
    simp only [lenTo]
    rw [ih, getD_zip _ x x hx hx k rfl]
    have : pc (x.getD k 0 ^^^ (x.getD k 0 &&& x.getD k 0)) = 0 := by
      unfold pc
      rw [List.countP_eq_zero]
      intro i _
      simp
    rw [this]

/-- the cells of a set, wherever it lies -/
abbrev cellsOf (ws : List Nat) : List Value := ws.map (fun x : Nat => Value.int .u64 (x : Int))
theorem range_box {w : World} {b : Nat} {ws : List Nat} {T : TypeId} (h : w.heap[b]? = some (.cells (setA ws) T (0, 0))) : w.rangeAt b 0 (cellsOf ws) := by
  have := World.rangeAt_of_block h 0 (setA ws).size
  have e : ((setA ws).extract 0 (0 + (setA ws).size)).toList = cellsOf ws := by
    simp only [setA, Nat.zero_add, Array.extract_size]
  rw [e] at this
  exact this
theorem range_below {w w' : World} {b B : Nat} {cs : List Value} (h : w.rangeAt b 0 cs) (hb : Below B w w') (hB : b < B) : w'.rangeAt b 0 cs :=
  fun j v hj => (hb.cell (p := ⟨b, 0 + j, none⟩) hB).trans (h j v hj)

theorem cells_one (ws : List Nat) : ∀ v ∈ cellsOf ws, v.oneCell' = true := by
  intro v hv
  obtain ⟨x, _, rfl⟩ := List.mem_map.1 hv
  rfl

abbrev H3 (s : Nat) (x y u : List Nat) (wc : World) (w' : World) : Prop :=
  w'.rangeAt s 0 (cellsOf x) ∧ w'.rangeAt (s + 1) 0 (cellsOf y) ∧ w'.rangeAt (s + 1 + 1) 0 (cellsOf u) ∧ Below wc.heap.size wc w' ∧ wc.heap.size ≤ w'.heap.size

theorem h3_mono {s : Nat} {x y u : List Nat} {wc w w' : World} (h : H3 s x y u wc w) (hs : s + 1 + 1 < wc.heap.size) (hb : Below wc.heap.size w w') : H3 s x y u wc w' :=
  ⟨range_below h.1 hb (by omega), range_below h.2.1 hb (by omega), range_below h.2.2.1 hb hs, h.2.2.2.1.trans hb, Nat.le_trans h.2.2.2.2 hb.size⟩
theorem h3_drew {s : Nat} {x y u : List Nat} {w : World} (h1 : w.rangeAt s 0 (cellsOf x)) (h2 : w.rangeAt (s + 1) 0 (cellsOf y)) (h3 : w.rangeAt (s + 1 + 1) 0 (cellsOf u)) : H3 s x y u w w.drew :=
  ⟨h1, h2, h3, (Below.refl _ _).drew, Nat.le_refl _⟩
theorem h3_alloc {s : Nat} {x y u : List Nat} {wc w : World} (h : H3 s x y u wc w) (hs : s + 1 + 1 < wc.heap.size) (o : Obj) : H3 s x y u wc (w.alloc o) :=
  h3_mono h hs ((Below.refl _ _).alloc h.2.2.2.2 o)
theorem h3_call {s : Nat} {x y u : List Nat} {wc w w' : World} (h : H3 s x y u wc w) (hs : s + 1 + 1 < wc.heap.size) (hb : Below w.heap.size w w') : H3 s x y u wc w' :=
  h3_mono h hs (hb.mono h.2.2.2.2)
theorem below_setCells {B b : Nat} : ∀ (vs : List Value) (o : Nat) {w0 w : World}, Below B w0 w → B ≤ b → Below B w0 (w.setCells b o vs)
  | [], _, _, _, h, _ => h
  | v :: r, o, _, _, h, hb => by
    rw [World.setCells]
    exact below_setCells r (o + 1) (h.setCell hb v) hb

theorem h3_size {s : Nat} {x y u : List Nat} {wc w : World} (h : H3 s x y u wc w) : wc.heap.size ≤ w.heap.size := h.2.2.2.2
theorem there_block {w : World} {b : Nat} {T : TypeId} {ws : List Nat} (h : w.heap[b]? = some (.cells (setA noWords) T (0, 0))) (hl : ws.length = 16) : w.there b 0 (setA ws).size := fun j hj => by
  rw [setA_size, hl] at hj
  refine ⟨?_, free_of_block h⟩
  rw [cell_of_row w b (0 + j) _ T (0, 0) h]
  have : 0 + j < (setA noWords).size := by rw [setA_size, Nat.zero_add]; exact hj
  rw [Array.getElem?_eq_getElem this]; rfl
theorem range_stored {w : World} {b : Nat} {T : TypeId} {ws : List Nat} (h : w.heap[b]? = some (.cells (setA noWords) T (0, 0))) (hl : ws.length = 16) : (w.setCells b 0 (setA ws).toList).rangeAt b 0 (cellsOf ws) :=
  World.rangeAt_setCells_same w b 0 (setA ws).toList (by have := there_block h hl; simpa using this)
theorem size_setCells (b : Nat) : ∀ (vs : List Value) (o : Nat) (w : World), (w.setCells b o vs).heap.size = w.heap.size
  | [], _, _ => rfl
  | v :: r, o, w => by rw [World.setCells, size_setCells b r (o + 1)]; simp

abbrev H5 (s : Nat) (x y u : List Nat) (b b' : Nat) (L : List Nat) (wc : World) (w' : World) : Prop := H3 s x y u wc w' ∧ w'.rangeAt b 0 (cellsOf L) ∧ w'.rangeAt b' 0 (cellsOf L)
theorem h5_call {s : Nat} {x y u : List Nat} {b b' : Nat} {L : List Nat} {wc w w' : World} (h : H5 s x y u b b' L wc w) (hs : s + 1 + 1 < wc.heap.size) (h1 : b < wc.heap.size) (h2 : b' < wc.heap.size) (hb : Below w.heap.size w w') : H5 s x y u b b' L wc w' :=
  ⟨h3_call h.1 hs hb, range_below h.2.1 (hb.mono h.1.2.2.2.2) h1, range_below h.2.2 (hb.mono h.1.2.2.2.2) h2⟩

set_option maxRecDepth 100000 in
set_option maxHeartbeats 4000000 in
theorem bitsLaws_walk (v0 : Value) (l0 : List Int) (v1 : Value) (l1 : List Int) (v2 : Value) (l2 : List Int) (w : World) (h0 : IntsV w v0 l0) (h1 : IntsV w v1 l1) (h2 : IntsV w v2 l2) (hT : TabAt 0 Lib.deBruijn64tab w) :
    Calls Tryd.prog 5 #[v0, v1, v2] w fun e w' => e = .returned (.bool true) ∧ Below w.heap.size w w' := by
  have HT := Lib.hid hT
  have HA := Lib.hid h0
  have HB := Lib.hid h1
  have HC := Lib.hid h2
  clear hT h0 h1 h2
  go_enter Tryd.func5, Tryd.ntmps5
  go_wp2_with fail
  refine (bitsWakes_any _ HT.out).mono ?_
  rintro e w2 ⟨rfl, hbw⟩
  go_wp2_with fail
  refine (cutInts_any v0 l0 60 _ (HA.out.below hbw) (by omega)).mono ?_
  rintro e w3 ⟨⟨⟨va, rfl, hva⟩, _⟩, rfl⟩
  have HA2 := Lib.hid hva
  clear hva HA
  go_wp2_with fail
  refine (of_any va _ _ HA2.out).mono ?_
  rintro e w3 ⟨rfl, hb3⟩
  have hx16 := Lib.hid (ofS_length (cutL l0 60))
  have hx64 := Lib.hid (ofS_lt (cutL l0 60))
  generalize ofS (cutL l0 60) = x at hx16 hx64
  replace hbw := hbw.trans (hb3.mono hbw.size)
  clear hb3
  go_wp2_with fail
  refine (cutInts_any v1 l1 60 _ (HB.out.below hbw) (by omega)).mono ?_
  rintro e w4 ⟨⟨⟨vb, rfl, hvb⟩, _⟩, rfl⟩
  have HB2 := Lib.hid hvb
  clear hvb HB
  go_wp2_with fail
  refine (of_any vb _ _ HB2.out).mono ?_
  rintro e w4 ⟨rfl, hb3⟩
  have hy16 := Lib.hid (ofS_length (cutL l1 60))
  have hy64 := Lib.hid (ofS_lt (cutL l1 60))
  generalize ofS (cutL l1 60) = y at hy16 hy64
  replace hbw := hbw.trans (hb3.mono hbw.size)
  clear hb3
  go_wp2_with fail
  refine (cutInts_any v2 l2 60 _ (HC.out.below hbw) (by omega)).mono ?_
  rintro e w5 ⟨⟨⟨vc, rfl, hvc⟩, _⟩, rfl⟩
  have HC2 := Lib.hid hvc
  clear hvc HC
  go_wp2_with fail
  refine (of_any vc _ _ HC2.out).mono ?_
  rintro e w5 ⟨rfl, hb3⟩
  have hu16 := Lib.hid (ofS_length (cutL l2 60))
  have hu64 := Lib.hid (ofS_lt (cutL l2 60))
  generalize ofS (cutL l2 60) = u at hu16 hu64
  replace hbw := hbw.trans (hb3.mono hbw.size)
  clear hb3 HA2 HB2 HC2
  go_upto_region 4 with (first
    | (refine wpList_store_row rfl 29 (.tmp 7) (.tmp 16) rfl w5.heap.size (setA x) rfl rfl 29 (setA noWords) ?hh (setInfo_of x hx16.out) (by rw [setA_size, setA_size, hx16.out]; rfl) (setA_one _) ?_; case hh => exact block3_low w5 (.cells (setA noWords) 29) (.cells (setA noWords) 29) (.cells (setA noWords) 29))
    | (refine wpList_store_row rfl 29 (.tmp 8) (.tmp 19) rfl (w5.heap.size + 1) (setA y) rfl rfl 29 (setA noWords) ?hh (setInfo_of y hy16.out) (by rw [setA_size, setA_size, hy16.out]; rfl) (setA_one _) ?_; case hh => exact boxes3_b w5 29 (setA noWords) x)
    | (refine wpList_store_row rfl 29 (.tmp 9) (.tmp 22) rfl (w5.heap.size + 1 + 1) (setA u) rfl rfl 29 (setA noWords) ?hh (setInfo_of u hu16.out) (by rw [setA_size, setA_size, hu16.out]; rfl) (setA_one _) ?_; case hh => exact boxes3_c w5 29 (setA noWords) x y))
  have hL3 := boxes3_at w5 29 (setA noWords) x y u
  have hR1 := Lib.hid (range_box hL3.1)
  have hR2 := Lib.hid (range_box hL3.2.1)
  have hR3 := Lib.hid (range_box hL3.2.2)
  have hbx : Hid (Below w.heap.size w (boxes3 w5 29 (setA noWords) x y u)) := Lib.hid (hbw.trans ((boxes3_below w5 29 (setA noWords) x y u).mono hbw.size))
  have hsx : Hid ((boxes3 w5 29 (setA noWords) x y u).heap.size = w5.heap.size + 1 + 1 + 1) := Lib.hid (by simp [boxes3, World.setRow])
  have hws := hbw.size
  clear hL3 hbw
  simp only [Act.put]
  change Code.wp _ _ _ _ (boxes3 w5 29 (setA noWords) x y u)
  generalize boxes3 w5 29 (setA noWords) x y u = wb at hR1 hR2 hR3 hbx hsx ⊢
  have hws : w5.heap.size + 1 + 1 < wb.heap.size := by rw [hsx.out]; omega
  have hwb : w.heap.size ≤ wb.heap.size := hbx.out.size
  -- what the calls come to
  have hi : (Tryd.prog.info? 29).map (·.size) = some 16 := by have := setInfo_of x hx16.out; rwa [setA_size, hx16.out] at this
  obtain ⟨yu, hyu⟩ : ∃ l, l = List.zipWith (· ||| ·) y u := ⟨_, rfl⟩
  obtain ⟨L, hL⟩ : ∃ l, l = List.zipWith (· &&& ·) x yu := ⟨_, rfl⟩
  have hyu16 : yu.length = 16 := by rw [hyu, List.length_zipWith, hy16.out, hu16.out]; rfl
  have hyu64 : ∀ v ∈ yu, v < 2 ^ 64 := by rw [hyu]; exact zip_lt (fun u v hu hv => Nat.or_lt_two_pow hu hv) hy64.out hu64.out
  have hL16 : L.length = 16 := by rw [hL, List.length_zipWith, hx16.out, hyu16]; rfl
  have c1 := Lib.hid (fun W => or_any y u W hy16.out hu16.out hy64.out hu64.out)
  have c2 := Lib.hid (fun W => and_any x yu W hx16.out hyu16 hx64.out hyu64)
  rw [← hyu] at c1
  rw [← hL] at c2
  have HYU := Lib.hid hyu; have HL := Lib.hid hL
  have HL16 := Lib.hid hL16
  have HI := Lib.hid hi
  clear hyu hL hyu64 hyu16 hL16 hi
  go_cut [10] (fun p wx => ∃ b, p = .pointer (some ⟨b, 0, none⟩) ∧ Hid (H3 w5.heap.size x y u wb wx) ∧ Hid (wx.rangeAt b 0 (cellsOf L)) ∧ wb.heap.size ≤ b ∧ b < wx.heap.size)
  case first =>
    have hr1 := hR1.out; have hr2 := hR2.out; have hr3 := hR3.out
    have hu := Tryd.underlying29
    have hi1 : (Tryd.prog.info? 29).map (·.size) = some (cellsOf x).length := by rw [HI.out, List.length_map, hx16.out]
    have hi2 : (Tryd.prog.info? 29).map (·.size) = some (cellsOf y).length := by rw [HI.out, List.length_map, hy16.out]
    have hi3 : (Tryd.prog.info? 29).map (·.size) = some (cellsOf u).length := by rw [HI.out, List.length_map, hu16.out]
    have hi4 : (Tryd.prog.info? 29).map (·.size) = some (cellsOf L).length := by rw [HI.out, List.length_map, HL16.out]
    have h14 := cells_one L
    refine wp_region_held_drew (S := H3 w5.heap.size x y u wb) (by kernel_rfl) (h3_drew hr1 hr2 hr3) (fun hH => ?_)
    refine wpAnyH_take (i := 0) rfl (by kernel_rfl) (by kernel_rfl) (by kernel_rfl) (fun _ _ _ h => h) (yieldsIf_load_mid (by rfl) 29 (.tmp 7) rfl w5.heap.size 0 rfl (cellsOf x) _ (fun w h => h.1) hu rfl hi1) hH ?_
    (try simp only [Act.put]); (try simp only [List.setIfInBounds_toArray]); (repeat (first | simp only [List.set_cons_succ] | simp only [List.set_cons_zero]))
    refine wpAnyH_take (i := 1) rfl (by kernel_rfl) (by kernel_rfl) (by kernel_rfl) (fun _ _ _ h => h) (yieldsIf_load_mid (by rfl) 29 (.tmp 8) rfl (w5.heap.size + 1) 0 rfl (cellsOf y) _ (fun w h => h.2.1) hu rfl hi2) hH ?_
    (try simp only [Act.put]); (try simp only [List.setIfInBounds_toArray]); (repeat (first | simp only [List.set_cons_succ] | simp only [List.set_cons_zero]))
    refine wpAnyH_take (i := 2) rfl (by kernel_rfl) (by kernel_rfl) (by kernel_rfl) (fun _ _ _ h => h) (yieldsIf_load_mid (by rfl) 29 (.tmp 9) rfl (w5.heap.size + 1 + 1) 0 rfl (cellsOf u) _ (fun w h => h.2.2.1) hu rfl hi3) hH ?_
    (try simp only [Act.put]); (try simp only [List.setIfInBounds_toArray]); (repeat (first | simp only [List.set_cons_succ] | simp only [List.set_cons_zero]))
    refine wpAnyH_ready (rs := [3, 5]) (by kernel_rfl) (by simp) ?_
    refine AllReadyH.cons rfl (fun K hK => ?_) ?_
    · go_simp
      refine (c1.out _).mono ?_
      rintro e wq6 ⟨rfl, hb⟩
      go_wp2_with fail
      refine hK.out _ _ (h3_call hH hws hb) (fun hH => ?_)
      clear hb hK K
      (try simp only [Act.put]); (try simp only [List.setIfInBounds_toArray]); (repeat (first | simp only [List.set_cons_succ] | simp only [List.set_cons_zero]))
      refine wpAnyH_ready (rs := [4, 5]) (by kernel_rfl) (by simp) ?_
      refine AllReadyH.cons rfl (fun K hK => ?_) ?_
      · go_simp
        refine (c2.out _).mono ?_
        rintro e wq7 ⟨rfl, hb⟩
        go_wp2_with fail
        refine hK.out _ _ (h3_call hH hws hb) (fun hH => ?_)
        clear hb hK K
        (try simp only [Act.put]); (try simp only [List.setIfInBounds_toArray]); (repeat (first | simp only [List.set_cons_succ] | simp only [List.set_cons_zero]))
        refine wpAnyH_ready (rs := [5]) (by kernel_rfl) (by simp) ?_
        refine AllReadyH.cons rfl (fun K hK => ?_) ?_
        · go_simp
          refine hK.out _ _ (h3_alloc hH hws _) (fun hH => ?_)
          have hbk := heap_alloc_new wq7 (.cells (setA noWords) 29)
          have hbn := h3_size ‹H3 _ _ _ _ _ wq7›
          clear hK K
          (try simp only [Act.put]); (try simp only [List.setIfInBounds_toArray]); (repeat (first | simp only [List.set_cons_succ] | simp only [List.set_cons_zero]))
          refine wpAnyH_ready (rs := [6]) (by kernel_rfl) (by simp) ?_
          refine AllReadyH.cons rfl (fun K hK => ?_) ?_
          · rw [if_pos (by rfl)]
            refine wp_store_mid 29 (.tmp 10) (.tmp 27) rfl wq7.heap.size 0 (setA L) rfl rfl (there_block hbk HL16.out) hi4 (setA_one _) ?_
            refine hK.out _ _ (h3_mono hH hws (below_setCells _ 0 (Below.refl _ _) hbn)) (fun hH => ?_)
            clear hK K
            (try simp only [Act.put]); (try simp only [List.setIfInBounds_toArray]); (repeat (first | simp only [List.set_cons_succ] | simp only [List.set_cons_zero]))
            refine wpAnyH_done (by kernel_rfl) ?_ _
            go_wp2_with fail
            go_meet
            case rel => exact ⟨wq7.heap.size, rfl, Lib.hid hH, Lib.hid (range_stored hbk HL16.out), hbn, by rw [size_setCells]; exact lt_of_block hbk⟩
          exact AllReadyH.nil
        exact AllReadyH.nil
      refine AllReadyH.cons rfl (fun K hK => ?_) ?_
      · go_simp
        refine hK.out _ _ (h3_alloc hH hws _) (fun hH => ?_)
        have hbk := heap_alloc_new wq6 (.cells (setA noWords) 29)
        have hbn := h3_size ‹H3 _ _ _ _ _ wq6›
        clear hK K
        (try simp only [Act.put]); (try simp only [List.setIfInBounds_toArray]); (repeat (first | simp only [List.set_cons_succ] | simp only [List.set_cons_zero]))
        refine wpAnyH_ready (rs := [4]) (by kernel_rfl) (by simp) ?_
        refine AllReadyH.cons rfl (fun K hK => ?_) ?_
        · go_simp
          refine (c2.out _).mono ?_
          rintro e wq8 ⟨rfl, hb⟩
          go_wp2_with fail
          refine hK.out _ _ (h3_call hH hws hb) (fun hH => ?_)
          replace hbk := block_below hbk hb (lt_of_block hbk)
          clear hb hK K
          (try simp only [Act.put]); (try simp only [List.setIfInBounds_toArray]); (repeat (first | simp only [List.set_cons_succ] | simp only [List.set_cons_zero]))
          refine wpAnyH_ready (rs := [6]) (by kernel_rfl) (by simp) ?_
          refine AllReadyH.cons rfl (fun K hK => ?_) ?_
          · rw [if_pos (by rfl)]
            refine wp_store_mid 29 (.tmp 10) (.tmp 27) rfl wq6.heap.size 0 (setA L) rfl rfl (there_block hbk HL16.out) hi4 (setA_one _) ?_
            refine hK.out _ _ (h3_mono hH hws (below_setCells _ 0 (Below.refl _ _) hbn)) (fun hH => ?_)
            clear hK K
            (try simp only [Act.put]); (try simp only [List.setIfInBounds_toArray]); (repeat (first | simp only [List.set_cons_succ] | simp only [List.set_cons_zero]))
            refine wpAnyH_done (by kernel_rfl) ?_ _
            go_wp2_with fail
            go_meet
            case rel => exact ⟨wq6.heap.size, rfl, Lib.hid hH, Lib.hid (range_stored hbk HL16.out), hbn, by rw [size_setCells]; exact lt_of_block hbk⟩
          exact AllReadyH.nil
        exact AllReadyH.nil
      exact AllReadyH.nil
    refine AllReadyH.cons rfl (fun K hK => ?_) ?_
    · go_simp
      refine hK.out _ _ (h3_alloc hH hws _) (fun hH => ?_)
      have hbk := heap_alloc_new wb.drew (.cells (setA noWords) 29)
      have hbn := h3_size ‹H3 _ _ _ _ _ wb.drew›
      clear hK K
      (try simp only [Act.put]); (try simp only [List.setIfInBounds_toArray]); (repeat (first | simp only [List.set_cons_succ] | simp only [List.set_cons_zero]))
      refine wpAnyH_ready (rs := [3]) (by kernel_rfl) (by simp) ?_
      refine AllReadyH.cons rfl (fun K hK => ?_) ?_
      · go_simp
        refine (c1.out _).mono ?_
        rintro e wq9 ⟨rfl, hb⟩
        go_wp2_with fail
        refine hK.out _ _ (h3_call hH hws hb) (fun hH => ?_)
        replace hbk := block_below hbk hb (lt_of_block hbk)
        clear hb hK K
        (try simp only [Act.put]); (try simp only [List.setIfInBounds_toArray]); (repeat (first | simp only [List.set_cons_succ] | simp only [List.set_cons_zero]))
        refine wpAnyH_ready (rs := [4]) (by kernel_rfl) (by simp) ?_
        refine AllReadyH.cons rfl (fun K hK => ?_) ?_
        · go_simp
          refine (c2.out _).mono ?_
          rintro e wq10 ⟨rfl, hb⟩
          go_wp2_with fail
          refine hK.out _ _ (h3_call hH hws hb) (fun hH => ?_)
          replace hbk := block_below hbk hb (lt_of_block hbk)
          clear hb hK K
          (try simp only [Act.put]); (try simp only [List.setIfInBounds_toArray]); (repeat (first | simp only [List.set_cons_succ] | simp only [List.set_cons_zero]))
          refine wpAnyH_ready (rs := [6]) (by kernel_rfl) (by simp) ?_
          refine AllReadyH.cons rfl (fun K hK => ?_) ?_
          · rw [if_pos (by rfl)]
            refine wp_store_mid 29 (.tmp 10) (.tmp 27) rfl wb.drew.heap.size 0 (setA L) rfl rfl (there_block hbk HL16.out) hi4 (setA_one _) ?_
            refine hK.out _ _ (h3_mono hH hws (below_setCells _ 0 (Below.refl _ _) hbn)) (fun hH => ?_)
            clear hK K
            (try simp only [Act.put]); (try simp only [List.setIfInBounds_toArray]); (repeat (first | simp only [List.set_cons_succ] | simp only [List.set_cons_zero]))
            refine wpAnyH_done (by kernel_rfl) ?_ _
            go_wp2_with fail
            go_meet
            case rel => exact ⟨wb.drew.heap.size, rfl, Lib.hid hH, Lib.hid (range_stored hbk HL16.out), hbn, by rw [size_setCells]; exact lt_of_block hbk⟩
          exact AllReadyH.nil
        exact AllReadyH.nil
      exact AllReadyH.nil
    exact AllReadyH.nil
  case rest =>
    obtain ⟨b, rfl, hH1, hR10, hb0, hb1⟩ := hcut
    obtain ⟨wA, rfl⟩ : ∃ W : World, W = wc := ⟨_, rfl⟩
    have hwA : w.heap.size ≤ wA.heap.size := Nat.le_trans hwb (h3_size hH1.out)
    have hws1 : w5.heap.size + 1 + 1 < wA.heap.size := Nat.lt_of_lt_of_le hws (h3_size hH1.out)
    have hbw1 : Hid (Below w.heap.size w wA) := Lib.hid (hbx.out.trans (hH1.out.2.2.2.1.mono hwb))
    clear c1 c2 hR1 hR2 hR3 hws hbx hb0 hsx
    obtain ⟨A1, hA1⟩ : ∃ l, l = List.zipWith (· &&& ·) x y := ⟨_, rfl⟩
    obtain ⟨A2, hA2⟩ : ∃ l, l = List.zipWith (· &&& ·) x u := ⟨_, rfl⟩
    have hA116 : A1.length = 16 := by rw [hA1, List.length_zipWith, hx16.out, hy16.out]; rfl
    have hA164 : ∀ v ∈ A1, v < 2 ^ 64 := by rw [hA1]; exact zip_lt (fun u v hu hv => Nat.and_lt_two_pow u hv) hx64.out hy64.out
    have hA216 : A2.length = 16 := by rw [hA2, List.length_zipWith, hx16.out, hu16.out]; rfl
    have hA264 : ∀ v ∈ A2, v < 2 ^ 64 := by rw [hA2]; exact zip_lt (fun u v hu hv => Nat.and_lt_two_pow u hv) hx64.out hu64.out
    have c3 := Lib.hid (fun W => and_any x y W hx16.out hy16.out hx64.out hy64.out)
    have c4 := Lib.hid (fun W => and_any x u W hx16.out hu16.out hx64.out hu64.out)
    have c5 := Lib.hid (fun W => or_any A1 A2 W hA116 hA216 hA164 hA264)
    rw [← hA1] at c3
    rw [← hA2] at c4
    have hR : List.zipWith (· ||| ·) A1 A2 = L := by rw [HL.out, HYU.out, hA1, hA2]; exact (dist_words x y u hx16.out hy16.out hu16.out).symm
    rw [hR] at c5
    have HA1 := Lib.hid hA1
    have HA116 := Lib.hid hA116
    have HA164 := Lib.hid hA164
    clear hA1 hA2 hA116 hA164 hA216 hA264 hR
    go_upto_region 5 with fail
    go_cut [11] (fun p wx => ∃ b, p = .pointer (some ⟨b, 0, none⟩) ∧ Hid (H3 w5.heap.size x y u wA wx) ∧ Hid (wx.rangeAt b 0 (cellsOf L)) ∧ wA.heap.size ≤ b ∧ b < wx.heap.size)
    case first =>
      have hr1 := hH1.out.1; have hr2 := hH1.out.2.1; have hr3 := hH1.out.2.2.1
      have hu := Tryd.underlying29
      have hws := hws1
      have hi1 : (Tryd.prog.info? 29).map (·.size) = some (cellsOf x).length := by rw [HI.out, List.length_map, hx16.out]
      have hi2 : (Tryd.prog.info? 29).map (·.size) = some (cellsOf y).length := by rw [HI.out, List.length_map, hy16.out]
      have hi3 : (Tryd.prog.info? 29).map (·.size) = some (cellsOf u).length := by rw [HI.out, List.length_map, hu16.out]
      have hi4 : (Tryd.prog.info? 29).map (·.size) = some (cellsOf L).length := by rw [HI.out, List.length_map, HL16.out]
      refine wp_region_held_drew (S := H3 w5.heap.size x y u wA) (by kernel_rfl) (h3_drew hr1 hr2 hr3) (fun hH => ?_)
      refine wpAnyH_take (i := 0) rfl (by kernel_rfl) (by kernel_rfl) (by kernel_rfl) (fun _ _ _ h => h) (yieldsIf_load_mid (by rfl) 29 (.tmp 7) rfl w5.heap.size 0 rfl (cellsOf x) _ (fun w h => h.1) hu rfl hi1) hH ?_
      (try simp only [Act.put]); (try simp only [List.setIfInBounds_toArray]); (repeat (first | simp only [List.set_cons_succ] | simp only [List.set_cons_zero]))
      refine wpAnyH_take (i := 1) rfl (by kernel_rfl) (by kernel_rfl) (by kernel_rfl) (fun _ _ _ h => h) (yieldsIf_load_mid (by rfl) 29 (.tmp 8) rfl (w5.heap.size + 1) 0 rfl (cellsOf y) _ (fun w h => h.2.1) hu rfl hi2) hH ?_
      (try simp only [Act.put]); (try simp only [List.setIfInBounds_toArray]); (repeat (first | simp only [List.set_cons_succ] | simp only [List.set_cons_zero]))
      refine wpAnyH_take (i := 3) rfl (by kernel_rfl) (by kernel_rfl) (by kernel_rfl) (fun _ _ _ h => h) (yieldsIf_load_mid (by rfl) 29 (.tmp 7) rfl w5.heap.size 0 rfl (cellsOf x) _ (fun w h => h.1) hu rfl hi1) hH ?_
      (try simp only [Act.put]); (try simp only [List.setIfInBounds_toArray]); (repeat (first | simp only [List.set_cons_succ] | simp only [List.set_cons_zero]))
      refine wpAnyH_take (i := 4) rfl (by kernel_rfl) (by kernel_rfl) (by kernel_rfl) (fun _ _ _ h => h) (yieldsIf_load_mid (by rfl) 29 (.tmp 9) rfl (w5.heap.size + 1 + 1) 0 rfl (cellsOf u) _ (fun w h => h.2.2.1) hu rfl hi3) hH ?_
      (try simp only [Act.put]); (try simp only [List.setIfInBounds_toArray]); (repeat (first | simp only [List.set_cons_succ] | simp only [List.set_cons_zero]))
      refine wpAnyH_ready (rs := [2, 7]) (by kernel_rfl) (by simp) ?_
      refine AllReadyH.cons rfl (fun K hK => ?_) ?_
      · go_simp
        refine (c3.out _).mono ?_
        rintro e wr1 ⟨rfl, hb⟩
        go_wp2_with fail
        refine hK.out _ _ (h3_call hH hws hb) (fun hH => ?_)
        clear hb hK K
        (try simp only [Act.put]); (try simp only [List.setIfInBounds_toArray]); (repeat (first | simp only [List.set_cons_succ] | simp only [List.set_cons_zero]))
        refine wpAnyH_ready (rs := [5, 7]) (by kernel_rfl) (by simp) ?_
        refine AllReadyH.cons rfl (fun K hK => ?_) ?_
        · go_simp
          refine (c4.out _).mono ?_
          rintro e wr2 ⟨rfl, hb⟩
          go_wp2_with fail
          refine hK.out _ _ (h3_call hH hws hb) (fun hH => ?_)
          clear hb hK K
          (try simp only [Act.put]); (try simp only [List.setIfInBounds_toArray]); (repeat (first | simp only [List.set_cons_succ] | simp only [List.set_cons_zero]))
          refine wpAnyH_ready (rs := [6, 7]) (by kernel_rfl) (by simp) ?_
          refine AllReadyH.cons rfl (fun K hK => ?_) ?_
          · go_simp
            refine (c5.out _).mono ?_
            rintro e wr3 ⟨rfl, hb⟩
            go_wp2_with fail
            refine hK.out _ _ (h3_call hH hws hb) (fun hH => ?_)
            clear hb hK K
            (try simp only [Act.put]); (try simp only [List.setIfInBounds_toArray]); (repeat (first | simp only [List.set_cons_succ] | simp only [List.set_cons_zero]))
            refine wpAnyH_ready (rs := [7]) (by kernel_rfl) (by simp) ?_
            refine AllReadyH.cons rfl (fun K hK => ?_) ?_
            · go_simp
              refine hK.out _ _ (h3_alloc hH hws _) (fun hH => ?_)
              have hbk := heap_alloc_new wr3 (.cells (setA noWords) 29)
              have hbn := h3_size ‹H3 _ _ _ _ _ wr3›
              clear hK K
              (try simp only [Act.put]); (try simp only [List.setIfInBounds_toArray]); (repeat (first | simp only [List.set_cons_succ] | simp only [List.set_cons_zero]))
              refine wpAnyH_ready (rs := [8]) (by kernel_rfl) (by simp) ?_
              refine AllReadyH.cons rfl (fun K hK => ?_) ?_
              · rw [if_pos (by rfl)]
                refine wp_store_mid 29 (.tmp 11) (.tmp 34) rfl wr3.heap.size 0 (setA L) rfl rfl (there_block hbk HL16.out) hi4 (setA_one _) ?_
                refine hK.out _ _ (h3_mono hH hws (below_setCells _ 0 (Below.refl _ _) hbn)) (fun hH => ?_)
                clear hK K
                (try simp only [Act.put]); (try simp only [List.setIfInBounds_toArray]); (repeat (first | simp only [List.set_cons_succ] | simp only [List.set_cons_zero]))
                refine wpAnyH_done (by kernel_rfl) ?_ _
                go_wp2_with fail
                go_meet
                case rel => exact ⟨wr3.heap.size, rfl, Lib.hid hH, Lib.hid (range_stored hbk HL16.out), hbn, by rw [size_setCells]; exact lt_of_block hbk⟩
              exact AllReadyH.nil
            exact AllReadyH.nil
          refine AllReadyH.cons rfl (fun K hK => ?_) ?_
          · go_simp
            refine hK.out _ _ (h3_alloc hH hws _) (fun hH => ?_)
            have hbk := heap_alloc_new wr2 (.cells (setA noWords) 29)
            have hbn := h3_size ‹H3 _ _ _ _ _ wr2›
            clear hK K
            (try simp only [Act.put]); (try simp only [List.setIfInBounds_toArray]); (repeat (first | simp only [List.set_cons_succ] | simp only [List.set_cons_zero]))
            refine wpAnyH_ready (rs := [6]) (by kernel_rfl) (by simp) ?_
            refine AllReadyH.cons rfl (fun K hK => ?_) ?_
            · go_simp
              refine (c5.out _).mono ?_
              rintro e wr4 ⟨rfl, hb⟩
              go_wp2_with fail
              refine hK.out _ _ (h3_call hH hws hb) (fun hH => ?_)
              replace hbk := block_below hbk hb (lt_of_block hbk)
              clear hb hK K
              (try simp only [Act.put]); (try simp only [List.setIfInBounds_toArray]); (repeat (first | simp only [List.set_cons_succ] | simp only [List.set_cons_zero]))
              refine wpAnyH_ready (rs := [8]) (by kernel_rfl) (by simp) ?_
              refine AllReadyH.cons rfl (fun K hK => ?_) ?_
              · rw [if_pos (by rfl)]
                refine wp_store_mid 29 (.tmp 11) (.tmp 34) rfl wr2.heap.size 0 (setA L) rfl rfl (there_block hbk HL16.out) hi4 (setA_one _) ?_
                refine hK.out _ _ (h3_mono hH hws (below_setCells _ 0 (Below.refl _ _) hbn)) (fun hH => ?_)
                clear hK K
                (try simp only [Act.put]); (try simp only [List.setIfInBounds_toArray]); (repeat (first | simp only [List.set_cons_succ] | simp only [List.set_cons_zero]))
                refine wpAnyH_done (by kernel_rfl) ?_ _
                go_wp2_with fail
                go_meet
                case rel => exact ⟨wr2.heap.size, rfl, Lib.hid hH, Lib.hid (range_stored hbk HL16.out), hbn, by rw [size_setCells]; exact lt_of_block hbk⟩
              exact AllReadyH.nil
            exact AllReadyH.nil
          exact AllReadyH.nil
        refine AllReadyH.cons rfl (fun K hK => ?_) ?_
        · go_simp
          refine hK.out _ _ (h3_alloc hH hws _) (fun hH => ?_)
          have hbk := heap_alloc_new wr1 (.cells (setA noWords) 29)
          have hbn := h3_size ‹H3 _ _ _ _ _ wr1›
          clear hK K
          (try simp only [Act.put]); (try simp only [List.setIfInBounds_toArray]); (repeat (first | simp only [List.set_cons_succ] | simp only [List.set_cons_zero]))
          refine wpAnyH_ready (rs := [5]) (by kernel_rfl) (by simp) ?_
          refine AllReadyH.cons rfl (fun K hK => ?_) ?_
          · go_simp
            refine (c4.out _).mono ?_
            rintro e wr5 ⟨rfl, hb⟩
            go_wp2_with fail
            refine hK.out _ _ (h3_call hH hws hb) (fun hH => ?_)
            replace hbk := block_below hbk hb (lt_of_block hbk)
            clear hb hK K
            (try simp only [Act.put]); (try simp only [List.setIfInBounds_toArray]); (repeat (first | simp only [List.set_cons_succ] | simp only [List.set_cons_zero]))
            refine wpAnyH_ready (rs := [6]) (by kernel_rfl) (by simp) ?_
            refine AllReadyH.cons rfl (fun K hK => ?_) ?_
            · go_simp
              refine (c5.out _).mono ?_
              rintro e wr6 ⟨rfl, hb⟩
              go_wp2_with fail
              refine hK.out _ _ (h3_call hH hws hb) (fun hH => ?_)
              replace hbk := block_below hbk hb (lt_of_block hbk)
              clear hb hK K
              (try simp only [Act.put]); (try simp only [List.setIfInBounds_toArray]); (repeat (first | simp only [List.set_cons_succ] | simp only [List.set_cons_zero]))
              refine wpAnyH_ready (rs := [8]) (by kernel_rfl) (by simp) ?_
              refine AllReadyH.cons rfl (fun K hK => ?_) ?_
              · rw [if_pos (by rfl)]
                refine wp_store_mid 29 (.tmp 11) (.tmp 34) rfl wr1.heap.size 0 (setA L) rfl rfl (there_block hbk HL16.out) hi4 (setA_one _) ?_
                refine hK.out _ _ (h3_mono hH hws (below_setCells _ 0 (Below.refl _ _) hbn)) (fun hH => ?_)
                clear hK K
                (try simp only [Act.put]); (try simp only [List.setIfInBounds_toArray]); (repeat (first | simp only [List.set_cons_succ] | simp only [List.set_cons_zero]))
                refine wpAnyH_done (by kernel_rfl) ?_ _
                go_wp2_with fail
                go_meet
                case rel => exact ⟨wr1.heap.size, rfl, Lib.hid hH, Lib.hid (range_stored hbk HL16.out), hbn, by rw [size_setCells]; exact lt_of_block hbk⟩
              exact AllReadyH.nil
            exact AllReadyH.nil
          exact AllReadyH.nil
        exact AllReadyH.nil
      refine AllReadyH.cons rfl (fun K hK => ?_) ?_
      · go_simp
        refine hK.out _ _ (h3_alloc hH hws _) (fun hH => ?_)
        have hbk := heap_alloc_new wA.drew (.cells (setA noWords) 29)
        have hbn := h3_size ‹H3 _ _ _ _ _ wA.drew›
        clear hK K
        (try simp only [Act.put]); (try simp only [List.setIfInBounds_toArray]); (repeat (first | simp only [List.set_cons_succ] | simp only [List.set_cons_zero]))
        refine wpAnyH_ready (rs := [2]) (by kernel_rfl) (by simp) ?_
        refine AllReadyH.cons rfl (fun K hK => ?_) ?_
        · go_simp
          refine (c3.out _).mono ?_
          rintro e wr7 ⟨rfl, hb⟩
          go_wp2_with fail
          refine hK.out _ _ (h3_call hH hws hb) (fun hH => ?_)
          replace hbk := block_below hbk hb (lt_of_block hbk)
          clear hb hK K
          (try simp only [Act.put]); (try simp only [List.setIfInBounds_toArray]); (repeat (first | simp only [List.set_cons_succ] | simp only [List.set_cons_zero]))
          refine wpAnyH_ready (rs := [5]) (by kernel_rfl) (by simp) ?_
          refine AllReadyH.cons rfl (fun K hK => ?_) ?_
          · go_simp
            refine (c4.out _).mono ?_
            rintro e wr8 ⟨rfl, hb⟩
            go_wp2_with fail
            refine hK.out _ _ (h3_call hH hws hb) (fun hH => ?_)
            replace hbk := block_below hbk hb (lt_of_block hbk)
            clear hb hK K
            (try simp only [Act.put]); (try simp only [List.setIfInBounds_toArray]); (repeat (first | simp only [List.set_cons_succ] | simp only [List.set_cons_zero]))
            refine wpAnyH_ready (rs := [6]) (by kernel_rfl) (by simp) ?_
            refine AllReadyH.cons rfl (fun K hK => ?_) ?_
            · go_simp
              refine (c5.out _).mono ?_
              rintro e wr9 ⟨rfl, hb⟩
              go_wp2_with fail
              refine hK.out _ _ (h3_call hH hws hb) (fun hH => ?_)
              replace hbk := block_below hbk hb (lt_of_block hbk)
              clear hb hK K
              (try simp only [Act.put]); (try simp only [List.setIfInBounds_toArray]); (repeat (first | simp only [List.set_cons_succ] | simp only [List.set_cons_zero]))
              refine wpAnyH_ready (rs := [8]) (by kernel_rfl) (by simp) ?_
              refine AllReadyH.cons rfl (fun K hK => ?_) ?_
              · rw [if_pos (by rfl)]
                refine wp_store_mid 29 (.tmp 11) (.tmp 34) rfl wA.drew.heap.size 0 (setA L) rfl rfl (there_block hbk HL16.out) hi4 (setA_one _) ?_
                refine hK.out _ _ (h3_mono hH hws (below_setCells _ 0 (Below.refl _ _) hbn)) (fun hH => ?_)
                clear hK K
                (try simp only [Act.put]); (try simp only [List.setIfInBounds_toArray]); (repeat (first | simp only [List.set_cons_succ] | simp only [List.set_cons_zero]))
                refine wpAnyH_done (by kernel_rfl) ?_ _
                go_wp2_with fail
                go_meet
                case rel => exact ⟨wA.drew.heap.size, rfl, Lib.hid hH, Lib.hid (range_stored hbk HL16.out), hbn, by rw [size_setCells]; exact lt_of_block hbk⟩
              exact AllReadyH.nil
            exact AllReadyH.nil
          exact AllReadyH.nil
        exact AllReadyH.nil
      exact AllReadyH.nil
    case rest =>
      obtain ⟨b', rfl, hH2, hR11, hb0q, hb1q⟩ := hcut
      have hr10 : Hid (wc.rangeAt b 0 (cellsOf L)) := Lib.hid (range_below hR10.out hH2.out.2.2.2.1 hb1)
      have hws2 : w5.heap.size + 1 + 1 < wc.heap.size := Nat.lt_of_lt_of_le hws1 (h3_size hH2.out)
      replace hb1 : b < wc.heap.size := Nat.lt_of_lt_of_le hb1 (h3_size hH2.out)
      clear c4 c5 hR10 hws1 hb0q
      obtain ⟨W1, hW1⟩ : ∃ l, l = List.zipWith (fun a b => a ^^^ (a &&& b)) x y := ⟨_, rfl⟩
      obtain ⟨O2, hO2⟩ : ∃ l, l = List.zipWith (· ||| ·) x y := ⟨_, rfl⟩
      obtain ⟨Z, hZ⟩ : ∃ l, l = List.zipWith (fun a b => a ^^^ (a &&& b)) x x := ⟨_, rfl⟩
      have hW116 : W1.length = 16 := by rw [hW1, List.length_zipWith, hx16.out, hy16.out]; rfl
      have hW164 : ∀ v ∈ W1, v < 2 ^ 64 := by rw [hW1]; exact zip_lt (fun u v hu hv => Nat.xor_lt_two_pow hu (Nat.and_lt_two_pow u hv)) hx64.out hy64.out
      have hO216 : O2.length = 16 := by rw [hO2, List.length_zipWith, hx16.out, hy16.out]; rfl
      have hO264 : ∀ v ∈ O2, v < 2 ^ 64 := by rw [hO2]; exact zip_lt (fun u v hu hv => Nat.or_lt_two_pow hu hv) hx64.out hy64.out
      have hZ16 : Z.length = 16 := by rw [hZ, List.length_zipWith, hx16.out]; rfl
      have hZ64 : ∀ v ∈ Z, v < 2 ^ 64 := by rw [hZ]; exact zip_lt (fun u v hu hv => Nat.xor_lt_two_pow hu (Nat.and_lt_two_pow u hv)) hx64.out hx64.out
      have e1 := Lib.hid (fun W => eq_any L L W HL16.out HL16.out)
      have e2 := Lib.hid (fun W => eq_any x x W hx16.out hx16.out)
      rw [beq_self_eq_true] at e1 e2
      have d2 := Lib.hid (fun W => without_any x y W hx16.out hy16.out hx64.out hy64.out)
      have d3 := Lib.hid (fun W => or_any A1 W1 W HA116.out hW116 HA164.out hW164)
      have d4 := Lib.hid (fun W => or_any x y W hx16.out hy16.out hx64.out hy64.out)
      have d5 := Lib.hid (fun W => without_any x x W hx16.out hx16.out hx64.out hx64.out)
      have hJ : List.zipWith (· ||| ·) A1 W1 = x := by rw [HA1.out, hW1]; exact join_words x y hx16.out hy16.out
      rw [← hW1] at d2
      rw [hJ] at d3
      rw [← hO2] at d4
      rw [← hZ] at d5
      have n1c := Lib.hid (fun W => len_any O2 W hO216 hO264)
      have n2c := Lib.hid (fun W => len_any A1 W HA116.out HA164.out)
      have n3c := Lib.hid (fun W => len_any x W hx16.out hx64.out)
      have n4c := Lib.hid (fun W => len_any y W hy16.out hy64.out)
      have n5c := Lib.hid (fun W => len_any Z W hZ16 hZ64)
      have hzero : lenTo Z 16 = 0 := by rw [hZ]; exact len_self x hx16.out 16
      rw [hzero] at n5c
      have hsum : lenTo O2 16 + lenTo A1 16 = lenTo x 16 + lenTo y 16 := by rw [hO2, HA1.out]; exact len_or_and x y hx16.out hy16.out 16
      have hn1 := lenTo_le O2 16
      have hn2 := lenTo_le A1 16
      have hn3 := lenTo_le x 16
      have hn4 := lenTo_le y 16
      generalize lenTo O2 16 = n1 at n1c hsum hn1
      generalize lenTo A1 16 = n2 at n2c hsum hn2
      generalize lenTo x 16 = n3 at n3c hsum hn3
      generalize lenTo y 16 = n4 at n4c hsum hn4
      have hsi : (n1 : Int) + (n2 : Int) = (n3 : Int) + (n4 : Int) := by omega
      have d1 := c3
      clear hW1 hO2 hZ hW116 hW164 hO216 hO264 hZ16 hZ64 hJ hzero hsum c3
      have hr1 := hH2.out.1; have hr2 := hH2.out.2.1; have hr3 := hH2.out.2.2.1
      have hu := Tryd.underlying29
      have hi1 : (Tryd.prog.info? 29).map (·.size) = some (cellsOf x).length := by rw [HI.out, List.length_map, hx16.out]
      have hi2 : (Tryd.prog.info? 29).map (·.size) = some (cellsOf y).length := by rw [HI.out, List.length_map, hy16.out]
      have hi3 : (Tryd.prog.info? 29).map (·.size) = some (cellsOf u).length := by rw [HI.out, List.length_map, hu16.out]
      have hi4 : (Tryd.prog.info? 29).map (·.size) = some (cellsOf L).length := by rw [HI.out, List.length_map, HL16.out]
      go_upto_region 6 with fail
      refine wp_region_held_drew (S := H5 w5.heap.size x y u b b' L wc) (by kernel_rfl) ⟨h3_drew hr1 hr2 hr3, hr10.out, hR11.out⟩ (fun hH => ?_)
      refine wpAnyH_take (i := 0) rfl (by kernel_rfl) (by kernel_rfl) (by kernel_rfl) (fun _ _ _ h => h) (yieldsIf_load_mid (by rfl) 29 (.tmp 10) rfl b 0 rfl (cellsOf L) _ (fun w h => h.2.1) hu rfl hi4) hH ?_
      (try simp only [Act.put]); (try simp only [List.setIfInBounds_toArray]); (repeat (first | simp only [List.set_cons_succ] | simp only [List.set_cons_zero]))
      refine wpAnyH_take (i := 1) rfl (by kernel_rfl) (by kernel_rfl) (by kernel_rfl) (fun _ _ _ h => h) (yieldsIf_load_mid (by rfl) 29 (.tmp 11) rfl b' 0 rfl (cellsOf L) _ (fun w h => h.2.2) hu rfl hi4) hH ?_
      (try simp only [Act.put]); (try simp only [List.setIfInBounds_toArray]); (repeat (first | simp only [List.set_cons_succ] | simp only [List.set_cons_zero]))
      refine wpAnyH_ready (rs := [2]) (by kernel_rfl) (by simp) ?_
      refine AllReadyH.cons rfl (fun K hK => ?_) ?_
      · go_simp
        refine (e1.out _).mono ?_
        rintro e ws1 ⟨rfl, hb⟩
        go_wp2_with fail
        refine hK.out _ _ (h5_call hH hws2 hb1 hb1q hb) (fun hH => ?_)
        clear hb hK K
        (try simp only [Act.put]); (try simp only [List.setIfInBounds_toArray]); (repeat (first | simp only [List.set_cons_succ] | simp only [List.set_cons_zero]))
        refine wpAnyH_ready (rs := [3]) (by kernel_rfl) (by simp) ?_
        refine AllReadyH.cons rfl (fun K hK => ?_) ?_
        · go_simp
          refine hK.out _ _ hH (fun hH => ?_)
          clear hK K
          (try simp only [Act.put]); (try simp only [List.setIfInBounds_toArray]); (repeat (first | simp only [List.set_cons_succ] | simp only [List.set_cons_zero]))
          refine wpAnyH_take (i := 4) rfl (by kernel_rfl) (by kernel_rfl) (by kernel_rfl) (fun _ _ _ h => h) (yieldsIf_load_mid (by rfl) 29 (.tmp 7) rfl w5.heap.size 0 rfl (cellsOf x) _ (fun w h => h.1.1) hu rfl hi1) hH ?_
          (try simp only [Act.put]); (try simp only [List.setIfInBounds_toArray]); (repeat (first | simp only [List.set_cons_succ] | simp only [List.set_cons_zero]))
          refine wpAnyH_take (i := 5) rfl (by kernel_rfl) (by kernel_rfl) (by kernel_rfl) (fun _ _ _ h => h) (yieldsIf_load_mid (by rfl) 29 (.tmp 8) rfl (w5.heap.size + 1) 0 rfl (cellsOf y) _ (fun w h => h.1.2.1) hu rfl hi2) hH ?_
          (try simp only [Act.put]); (try simp only [List.setIfInBounds_toArray]); (repeat (first | simp only [List.set_cons_succ] | simp only [List.set_cons_zero]))
          refine wpAnyH_take (i := 7) rfl (by kernel_rfl) (by kernel_rfl) (by kernel_rfl) (fun _ _ _ h => h) (yieldsIf_load_mid (by rfl) 29 (.tmp 7) rfl w5.heap.size 0 rfl (cellsOf x) _ (fun w h => h.1.1) hu rfl hi1) hH ?_
          (try simp only [Act.put]); (try simp only [List.setIfInBounds_toArray]); (repeat (first | simp only [List.set_cons_succ] | simp only [List.set_cons_zero]))
          refine wpAnyH_take (i := 8) rfl (by kernel_rfl) (by kernel_rfl) (by kernel_rfl) (fun _ _ _ h => h) (yieldsIf_load_mid (by rfl) 29 (.tmp 8) rfl (w5.heap.size + 1) 0 rfl (cellsOf y) _ (fun w h => h.1.2.1) hu rfl hi2) hH ?_
          (try simp only [Act.put]); (try simp only [List.setIfInBounds_toArray]); (repeat (first | simp only [List.set_cons_succ] | simp only [List.set_cons_zero]))
          refine wpAnyH_take (i := 11) rfl (by kernel_rfl) (by kernel_rfl) (by kernel_rfl) (fun _ _ _ h => h) (yieldsIf_load_mid (by rfl) 29 (.tmp 7) rfl w5.heap.size 0 rfl (cellsOf x) _ (fun w h => h.1.1) hu rfl hi1) hH ?_
          (try simp only [Act.put]); (try simp only [List.setIfInBounds_toArray]); (repeat (first | simp only [List.set_cons_succ] | simp only [List.set_cons_zero]))
          refine wpAnyH_ready (rs := [6]) (by kernel_rfl) (by simp) ?_
          refine AllReadyH.cons rfl (fun K hK => ?_) ?_
          · go_simp
            refine (d1.out _).mono ?_
            rintro e ws2 ⟨rfl, hb⟩
            go_wp2_with fail
            refine hK.out _ _ (h5_call hH hws2 hb1 hb1q hb) (fun hH => ?_)
            clear hb hK K
            (try simp only [Act.put]); (try simp only [List.setIfInBounds_toArray]); (repeat (first | simp only [List.set_cons_succ] | simp only [List.set_cons_zero]))
            refine wpAnyH_ready (rs := [9]) (by kernel_rfl) (by simp) ?_
            refine AllReadyH.cons rfl (fun K hK => ?_) ?_
            · go_simp
              refine (d2.out _).mono ?_
              rintro e ws3 ⟨rfl, hb⟩
              go_wp2_with fail
              refine hK.out _ _ (h5_call hH hws2 hb1 hb1q hb) (fun hH => ?_)
              clear hb hK K
              (try simp only [Act.put]); (try simp only [List.setIfInBounds_toArray]); (repeat (first | simp only [List.set_cons_succ] | simp only [List.set_cons_zero]))
              refine wpAnyH_ready (rs := [10]) (by kernel_rfl) (by simp) ?_
              refine AllReadyH.cons rfl (fun K hK => ?_) ?_
              · go_simp
                refine (d3.out _).mono ?_
                rintro e ws4 ⟨rfl, hb⟩
                go_wp2_with fail
                refine hK.out _ _ (h5_call hH hws2 hb1 hb1q hb) (fun hH => ?_)
                clear hb hK K
                (try simp only [Act.put]); (try simp only [List.setIfInBounds_toArray]); (repeat (first | simp only [List.set_cons_succ] | simp only [List.set_cons_zero]))
                refine wpAnyH_ready (rs := [12]) (by kernel_rfl) (by simp) ?_
                refine AllReadyH.cons rfl (fun K hK => ?_) ?_
                · go_simp
                  refine (e2.out _).mono ?_
                  rintro e ws5 ⟨rfl, hb⟩
                  go_wp2_with fail
                  refine hK.out _ _ (h5_call hH hws2 hb1 hb1q hb) (fun hH => ?_)
                  clear hb hK K
                  (try simp only [Act.put]); (try simp only [List.setIfInBounds_toArray]); (repeat (first | simp only [List.set_cons_succ] | simp only [List.set_cons_zero]))
                  refine wpAnyH_ready (rs := [13]) (by kernel_rfl) (by simp) ?_
                  refine AllReadyH.cons rfl (fun K hK => ?_) ?_
                  · go_simp
                    refine hK.out _ _ hH (fun hH => ?_)
                    clear hK K
                    (try simp only [Act.put]); (try simp only [List.setIfInBounds_toArray]); (repeat (first | simp only [List.set_cons_succ] | simp only [List.set_cons_zero]))
                    refine wpAnyH_ready (rs := [14]) (by kernel_rfl) (by simp) ?_
                    refine AllReadyH.cons rfl (fun K hK => ?_) ?_
                    · go_simp
                      refine hK.out _ _ hH (fun hH => ?_)
                      clear hK K
                      (try simp only [Act.put]); (try simp only [List.setIfInBounds_toArray]); (repeat (first | simp only [List.set_cons_succ] | simp only [List.set_cons_zero]))
                      refine wpAnyH_take (i := 15) rfl (by kernel_rfl) (by kernel_rfl) (by kernel_rfl) (fun _ _ _ h => h) (yieldsIf_load_mid (by rfl) 29 (.tmp 7) rfl w5.heap.size 0 rfl (cellsOf x) _ (fun w h => h.1.1) hu rfl hi1) hH ?_
                      (try simp only [Act.put]); (try simp only [List.setIfInBounds_toArray]); (repeat (first | simp only [List.set_cons_succ] | simp only [List.set_cons_zero]))
                      refine wpAnyH_take (i := 16) rfl (by kernel_rfl) (by kernel_rfl) (by kernel_rfl) (fun _ _ _ h => h) (yieldsIf_load_mid (by rfl) 29 (.tmp 8) rfl (w5.heap.size + 1) 0 rfl (cellsOf y) _ (fun w h => h.1.2.1) hu rfl hi2) hH ?_
                      (try simp only [Act.put]); (try simp only [List.setIfInBounds_toArray]); (repeat (first | simp only [List.set_cons_succ] | simp only [List.set_cons_zero]))
                      refine wpAnyH_take (i := 19) rfl (by kernel_rfl) (by kernel_rfl) (by kernel_rfl) (fun _ _ _ h => h) (yieldsIf_load_mid (by rfl) 29 (.tmp 7) rfl w5.heap.size 0 rfl (cellsOf x) _ (fun w h => h.1.1) hu rfl hi1) hH ?_
                      (try simp only [Act.put]); (try simp only [List.setIfInBounds_toArray]); (repeat (first | simp only [List.set_cons_succ] | simp only [List.set_cons_zero]))
                      refine wpAnyH_take (i := 20) rfl (by kernel_rfl) (by kernel_rfl) (by kernel_rfl) (fun _ _ _ h => h) (yieldsIf_load_mid (by rfl) 29 (.tmp 8) rfl (w5.heap.size + 1) 0 rfl (cellsOf y) _ (fun w h => h.1.2.1) hu rfl hi2) hH ?_
                      (try simp only [Act.put]); (try simp only [List.setIfInBounds_toArray]); (repeat (first | simp only [List.set_cons_succ] | simp only [List.set_cons_zero]))
                      refine wpAnyH_take (i := 24) rfl (by kernel_rfl) (by kernel_rfl) (by kernel_rfl) (fun _ _ _ h => h) (yieldsIf_load_mid (by rfl) 29 (.tmp 7) rfl w5.heap.size 0 rfl (cellsOf x) _ (fun w h => h.1.1) hu rfl hi1) hH ?_
                      (try simp only [Act.put]); (try simp only [List.setIfInBounds_toArray]); (repeat (first | simp only [List.set_cons_succ] | simp only [List.set_cons_zero]))
                      refine wpAnyH_take (i := 26) rfl (by kernel_rfl) (by kernel_rfl) (by kernel_rfl) (fun _ _ _ h => h) (yieldsIf_load_mid (by rfl) 29 (.tmp 8) rfl (w5.heap.size + 1) 0 rfl (cellsOf y) _ (fun w h => h.1.2.1) hu rfl hi2) hH ?_
                      (try simp only [Act.put]); (try simp only [List.setIfInBounds_toArray]); (repeat (first | simp only [List.set_cons_succ] | simp only [List.set_cons_zero]))
                      refine wpAnyH_ready (rs := [17]) (by kernel_rfl) (by simp) ?_
                      refine AllReadyH.cons rfl (fun K hK => ?_) ?_
                      · go_simp
                        refine (d4.out _).mono ?_
                        rintro e ws6 ⟨rfl, hb⟩
                        go_wp2_with fail
                        refine hK.out _ _ (h5_call hH hws2 hb1 hb1q hb) (fun hH => ?_)
                        clear hb hK K
                        (try simp only [Act.put]); (try simp only [List.setIfInBounds_toArray]); (repeat (first | simp only [List.set_cons_succ] | simp only [List.set_cons_zero]))
                        refine wpAnyH_ready (rs := [18]) (by kernel_rfl) (by simp) ?_
                        refine AllReadyH.cons rfl (fun K hK => ?_) ?_
                        · go_simp
                          refine (n1c.out _).mono ?_
                          rintro e ws7 ⟨rfl, hb⟩
                          go_wp2_with fail
                          refine hK.out _ _ (h5_call hH hws2 hb1 hb1q hb) (fun hH => ?_)
                          clear hb hK K
                          (try simp only [Act.put]); (try simp only [List.setIfInBounds_toArray]); (repeat (first | simp only [List.set_cons_succ] | simp only [List.set_cons_zero]))
                          refine wpAnyH_ready (rs := [21]) (by kernel_rfl) (by simp) ?_
                          refine AllReadyH.cons rfl (fun K hK => ?_) ?_
                          · go_simp
                            refine (d1.out _).mono ?_
                            rintro e ws8 ⟨rfl, hb⟩
                            go_wp2_with fail
                            refine hK.out _ _ (h5_call hH hws2 hb1 hb1q hb) (fun hH => ?_)
                            clear hb hK K
                            (try simp only [Act.put]); (try simp only [List.setIfInBounds_toArray]); (repeat (first | simp only [List.set_cons_succ] | simp only [List.set_cons_zero]))
                            refine wpAnyH_ready (rs := [22]) (by kernel_rfl) (by simp) ?_
                            refine AllReadyH.cons rfl (fun K hK => ?_) ?_
                            · go_simp
                              refine (n2c.out _).mono ?_
                              rintro e ws9 ⟨rfl, hb⟩
                              go_wp2_with fail
                              refine hK.out _ _ (h5_call hH hws2 hb1 hb1q hb) (fun hH => ?_)
                              clear hb hK K
                              (try simp only [Act.put]); (try simp only [List.setIfInBounds_toArray]); (repeat (first | simp only [List.set_cons_succ] | simp only [List.set_cons_zero]))
                              refine wpAnyH_ready (rs := [23, 25]) (by kernel_rfl) (by simp) ?_
                              refine AllReadyH.cons rfl (fun K hK => ?_) ?_
                              · go_simp
                                refine hK.out _ _ hH (fun hH => ?_)
                                clear hK K
                                (try simp only [Act.put]); (try simp only [List.setIfInBounds_toArray]); (repeat (first | simp only [List.set_cons_succ] | simp only [List.set_cons_zero]))
                                refine wpAnyH_ready (rs := [25]) (by kernel_rfl) (by simp) ?_
                                refine AllReadyH.cons rfl (fun K hK => ?_) ?_
                                · go_simp
                                  refine (n3c.out _).mono ?_
                                  rintro e ws10 ⟨rfl, hb⟩
                                  go_wp2_with fail
                                  refine hK.out _ _ (h5_call hH hws2 hb1 hb1q hb) (fun hH => ?_)
                                  clear hb hK K
                                  (try simp only [Act.put]); (try simp only [List.setIfInBounds_toArray]); (repeat (first | simp only [List.set_cons_succ] | simp only [List.set_cons_zero]))
                                  refine wpAnyH_ready (rs := [27]) (by kernel_rfl) (by simp) ?_
                                  refine AllReadyH.cons rfl (fun K hK => ?_) ?_
                                  · go_simp
                                    refine (n4c.out _).mono ?_
                                    rintro e ws11 ⟨rfl, hb⟩
                                    go_wp2_with fail
                                    refine hK.out _ _ (h5_call hH hws2 hb1 hb1q hb) (fun hH => ?_)
                                    clear hb hK K
                                    (try simp only [Act.put]); (try simp only [List.setIfInBounds_toArray]); (repeat (first | simp only [List.set_cons_succ] | simp only [List.set_cons_zero]))
                                    refine wpAnyH_ready (rs := [28]) (by kernel_rfl) (by simp) ?_
                                    refine AllReadyH.cons rfl (fun K hK => ?_) ?_
                                    · go_simp
                                      refine hK.out _ _ hH (fun hH => ?_)
                                      clear hK K
                                      (try simp only [Act.put]); (try simp only [List.setIfInBounds_toArray]); (repeat (first | simp only [List.set_cons_succ] | simp only [List.set_cons_zero]))
                                      refine wpAnyH_ready (rs := [29]) (by kernel_rfl) (by simp) ?_
                                      refine AllReadyH.cons rfl (fun K hK => ?_) ?_
                                      · go_simp
                                        refine hK.out _ _ hH (fun hH => ?_)
                                        clear hK K
                                        (try simp only [Act.put]); (try simp only [List.setIfInBounds_toArray]); (repeat (first | simp only [List.set_cons_succ] | simp only [List.set_cons_zero]))
                                        refine wpAnyH_ready (rs := [30]) (by kernel_rfl) (by simp) ?_
                                        refine AllReadyH.cons rfl (fun K hK => ?_) ?_
                                        · go_simp
                                          refine hK.out _ _ hH (fun hH => ?_)
                                          clear hK K
                                          (try simp only [Act.put]); (try simp only [List.setIfInBounds_toArray]); (repeat (first | simp only [List.set_cons_succ] | simp only [List.set_cons_zero]))
                                          refine wpAnyH_ready (rs := [31]) (by kernel_rfl) (by simp) ?_
                                          refine AllReadyH.cons rfl (fun K hK => ?_) ?_
                                          · go_simp
                                            refine hK.out _ _ hH (fun hH => ?_)
                                            clear hK K
                                            (try simp only [Act.put]); (try simp only [List.setIfInBounds_toArray]); (repeat (first | simp only [List.set_cons_succ] | simp only [List.set_cons_zero]))
                                            refine wpAnyH_take (i := 32) rfl (by kernel_rfl) (by kernel_rfl) (by kernel_rfl) (fun _ _ _ h => h) (yieldsIf_load_mid (by rfl) 29 (.tmp 7) rfl w5.heap.size 0 rfl (cellsOf x) _ (fun w h => h.1.1) hu rfl hi1) hH ?_
                                            (try simp only [Act.put]); (try simp only [List.setIfInBounds_toArray]); (repeat (first | simp only [List.set_cons_succ] | simp only [List.set_cons_zero]))
                                            refine wpAnyH_take (i := 33) rfl (by kernel_rfl) (by kernel_rfl) (by kernel_rfl) (fun _ _ _ h => h) (yieldsIf_load_mid (by rfl) 29 (.tmp 7) rfl w5.heap.size 0 rfl (cellsOf x) _ (fun w h => h.1.1) hu rfl hi1) hH ?_
                                            (try simp only [Act.put]); (try simp only [List.setIfInBounds_toArray]); (repeat (first | simp only [List.set_cons_succ] | simp only [List.set_cons_zero]))
                                            refine wpAnyH_ready (rs := [34]) (by kernel_rfl) (by simp) ?_
                                            refine AllReadyH.cons rfl (fun K hK => ?_) ?_
                                            · go_simp
                                              refine (d5.out _).mono ?_
                                              rintro e ws12 ⟨rfl, hb⟩
                                              go_wp2_with fail
                                              refine hK.out _ _ (h5_call hH hws2 hb1 hb1q hb) (fun hH => ?_)
                                              clear hb hK K
                                              (try simp only [Act.put]); (try simp only [List.setIfInBounds_toArray]); (repeat (first | simp only [List.set_cons_succ] | simp only [List.set_cons_zero]))
                                              refine wpAnyH_ready (rs := [35]) (by kernel_rfl) (by simp) ?_
                                              refine AllReadyH.cons rfl (fun K hK => ?_) ?_
                                              · go_simp
                                                refine (n5c.out _).mono ?_
                                                rintro e ws13 ⟨rfl, hb⟩
                                                go_wp2_with fail
                                                refine hK.out _ _ (h5_call hH hws2 hb1 hb1q hb) (fun hH => ?_)
                                                clear hb hK K
                                                (try simp only [Act.put]); (try simp only [List.setIfInBounds_toArray]); (repeat (first | simp only [List.set_cons_succ] | simp only [List.set_cons_zero]))
                                                refine wpAnyH_ready (rs := [36]) (by kernel_rfl) (by simp) ?_
                                                refine AllReadyH.cons rfl (fun K hK => ?_) ?_
                                                · go_simp
                                                  refine hK.out _ _ hH (fun hH => ?_)
                                                  clear hK K
                                                  (try simp only [Act.put]); (try simp only [List.setIfInBounds_toArray]); (repeat (first | simp only [List.set_cons_succ] | simp only [List.set_cons_zero]))
                                                  refine wpAnyH_ready (rs := [37]) (by kernel_rfl) (by simp) ?_
                                                  refine AllReadyH.cons rfl (fun K hK => ?_) ?_
                                                  · go_simp
                                                    refine hK.out _ _ hH (fun hH => ?_)
                                                    clear hK K
                                                    (try simp only [Act.put]); (try simp only [List.setIfInBounds_toArray]); (repeat (first | simp only [List.set_cons_succ] | simp only [List.set_cons_zero]))
                                                    refine wpAnyH_ready (rs := [38]) (by kernel_rfl) (by simp) ?_
                                                    refine AllReadyH.cons rfl (fun K hK => ?_) ?_
                                                    · go_simp
                                                      refine hK.out _ _ hH (fun hH => ?_)
                                                      clear hK K
                                                      (try simp only [Act.put]); (try simp only [List.setIfInBounds_toArray]); (repeat (first | simp only [List.set_cons_succ] | simp only [List.set_cons_zero]))
                                                      refine wpAnyH_done (by kernel_rfl) ?_ _
                                                      go_wp2_with fail
                                                      go_ret
                                                      exact ⟨rfl, (hbw1.out.trans (hH2.out.2.2.2.1.mono hwA)).trans (hH.1.2.2.2.1.mono (Nat.le_trans hwA hH2.out.2.2.2.2))⟩
                                                    exact AllReadyH.nil
                                                  exact AllReadyH.nil
                                                exact AllReadyH.nil
                                              exact AllReadyH.nil
                                            exact AllReadyH.nil
                                          exact AllReadyH.nil
                                        exact AllReadyH.nil
                                      exact AllReadyH.nil
                                    exact AllReadyH.nil
                                  exact AllReadyH.nil
                                exact AllReadyH.nil
                              refine AllReadyH.cons rfl (fun K hK => ?_) ?_
                              · go_simp
                                refine (n3c.out _).mono ?_
                                rintro e ws14 ⟨rfl, hb⟩
                                go_wp2_with fail
                                refine hK.out _ _ (h5_call hH hws2 hb1 hb1q hb) (fun hH => ?_)
                                clear hb hK K
                                (try simp only [Act.put]); (try simp only [List.setIfInBounds_toArray]); (repeat (first | simp only [List.set_cons_succ] | simp only [List.set_cons_zero]))
                                refine wpAnyH_ready (rs := [23, 27]) (by kernel_rfl) (by simp) ?_
                                refine AllReadyH.cons rfl (fun K hK => ?_) ?_
                                · go_simp
                                  refine hK.out _ _ hH (fun hH => ?_)
                                  clear hK K
                                  (try simp only [Act.put]); (try simp only [List.setIfInBounds_toArray]); (repeat (first | simp only [List.set_cons_succ] | simp only [List.set_cons_zero]))
                                  refine wpAnyH_ready (rs := [27]) (by kernel_rfl) (by simp) ?_
                                  refine AllReadyH.cons rfl (fun K hK => ?_) ?_
                                  · go_simp
                                    refine (n4c.out _).mono ?_
                                    rintro e ws15 ⟨rfl, hb⟩
                                    go_wp2_with fail
                                    refine hK.out _ _ (h5_call hH hws2 hb1 hb1q hb) (fun hH => ?_)
                                    clear hb hK K
                                    (try simp only [Act.put]); (try simp only [List.setIfInBounds_toArray]); (repeat (first | simp only [List.set_cons_succ] | simp only [List.set_cons_zero]))
                                    refine wpAnyH_ready (rs := [28]) (by kernel_rfl) (by simp) ?_
                                    refine AllReadyH.cons rfl (fun K hK => ?_) ?_
                                    · go_simp
                                      refine hK.out _ _ hH (fun hH => ?_)
                                      clear hK K
                                      (try simp only [Act.put]); (try simp only [List.setIfInBounds_toArray]); (repeat (first | simp only [List.set_cons_succ] | simp only [List.set_cons_zero]))
                                      refine wpAnyH_ready (rs := [29]) (by kernel_rfl) (by simp) ?_
                                      refine AllReadyH.cons rfl (fun K hK => ?_) ?_
                                      · go_simp
                                        refine hK.out _ _ hH (fun hH => ?_)
                                        clear hK K
                                        (try simp only [Act.put]); (try simp only [List.setIfInBounds_toArray]); (repeat (first | simp only [List.set_cons_succ] | simp only [List.set_cons_zero]))
                                        refine wpAnyH_ready (rs := [30]) (by kernel_rfl) (by simp) ?_
                                        refine AllReadyH.cons rfl (fun K hK => ?_) ?_
                                        · go_simp
                                          refine hK.out _ _ hH (fun hH => ?_)
                                          clear hK K
                                          (try simp only [Act.put]); (try simp only [List.setIfInBounds_toArray]); (repeat (first | simp only [List.set_cons_succ] | simp only [List.set_cons_zero]))
                                          refine wpAnyH_ready (rs := [31]) (by kernel_rfl) (by simp) ?_
                                          refine AllReadyH.cons rfl (fun K hK => ?_) ?_
                                          · go_simp
                                            refine hK.out _ _ hH (fun hH => ?_)
                                            clear hK K
                                            (try simp only [Act.put]); (try simp only [List.setIfInBounds_toArray]); (repeat (first | simp only [List.set_cons_succ] | simp only [List.set_cons_zero]))
                                            refine wpAnyH_take (i := 32) rfl (by kernel_rfl) (by kernel_rfl) (by kernel_rfl) (fun _ _ _ h => h) (yieldsIf_load_mid (by rfl) 29 (.tmp 7) rfl w5.heap.size 0 rfl (cellsOf x) _ (fun w h => h.1.1) hu rfl hi1) hH ?_
                                            (try simp only [Act.put]); (try simp only [List.setIfInBounds_toArray]); (repeat (first | simp only [List.set_cons_succ] | simp only [List.set_cons_zero]))
                                            refine wpAnyH_take (i := 33) rfl (by kernel_rfl) (by kernel_rfl) (by kernel_rfl) (fun _ _ _ h => h) (yieldsIf_load_mid (by rfl) 29 (.tmp 7) rfl w5.heap.size 0 rfl (cellsOf x) _ (fun w h => h.1.1) hu rfl hi1) hH ?_
                                            (try simp only [Act.put]); (try simp only [List.setIfInBounds_toArray]); (repeat (first | simp only [List.set_cons_succ] | simp only [List.set_cons_zero]))
                                            refine wpAnyH_ready (rs := [34]) (by kernel_rfl) (by simp) ?_
                                            refine AllReadyH.cons rfl (fun K hK => ?_) ?_
                                            · go_simp
                                              refine (d5.out _).mono ?_
                                              rintro e ws16 ⟨rfl, hb⟩
                                              go_wp2_with fail
                                              refine hK.out _ _ (h5_call hH hws2 hb1 hb1q hb) (fun hH => ?_)
                                              clear hb hK K
                                              (try simp only [Act.put]); (try simp only [List.setIfInBounds_toArray]); (repeat (first | simp only [List.set_cons_succ] | simp only [List.set_cons_zero]))
                                              refine wpAnyH_ready (rs := [35]) (by kernel_rfl) (by simp) ?_
                                              refine AllReadyH.cons rfl (fun K hK => ?_) ?_
                                              · go_simp
                                                refine (n5c.out _).mono ?_
                                                rintro e ws17 ⟨rfl, hb⟩
                                                go_wp2_with fail
                                                refine hK.out _ _ (h5_call hH hws2 hb1 hb1q hb) (fun hH => ?_)
                                                clear hb hK K
                                                (try simp only [Act.put]); (try simp only [List.setIfInBounds_toArray]); (repeat (first | simp only [List.set_cons_succ] | simp only [List.set_cons_zero]))
                                                refine wpAnyH_ready (rs := [36]) (by kernel_rfl) (by simp) ?_
                                                refine AllReadyH.cons rfl (fun K hK => ?_) ?_
                                                · go_simp
                                                  refine hK.out _ _ hH (fun hH => ?_)
                                                  clear hK K
                                                  (try simp only [Act.put]); (try simp only [List.setIfInBounds_toArray]); (repeat (first | simp only [List.set_cons_succ] | simp only [List.set_cons_zero]))
                                                  refine wpAnyH_ready (rs := [37]) (by kernel_rfl) (by simp) ?_
                                                  refine AllReadyH.cons rfl (fun K hK => ?_) ?_
                                                  · go_simp
                                                    refine hK.out _ _ hH (fun hH => ?_)
                                                    clear hK K
                                                    (try simp only [Act.put]); (try simp only [List.setIfInBounds_toArray]); (repeat (first | simp only [List.set_cons_succ] | simp only [List.set_cons_zero]))
                                                    refine wpAnyH_ready (rs := [38]) (by kernel_rfl) (by simp) ?_
                                                    refine AllReadyH.cons rfl (fun K hK => ?_) ?_
                                                    · go_simp
                                                      refine hK.out _ _ hH (fun hH => ?_)
                                                      clear hK K
                                                      (try simp only [Act.put]); (try simp only [List.setIfInBounds_toArray]); (repeat (first | simp only [List.set_cons_succ] | simp only [List.set_cons_zero]))
                                                      refine wpAnyH_done (by kernel_rfl) ?_ _
                                                      go_wp2_with fail
                                                      go_ret
                                                      exact ⟨rfl, (hbw1.out.trans (hH2.out.2.2.2.1.mono hwA)).trans (hH.1.2.2.2.1.mono (Nat.le_trans hwA hH2.out.2.2.2.2))⟩
                                                    exact AllReadyH.nil
                                                  exact AllReadyH.nil
                                                exact AllReadyH.nil
                                              exact AllReadyH.nil
                                            exact AllReadyH.nil
                                          exact AllReadyH.nil
                                        exact AllReadyH.nil
                                      exact AllReadyH.nil
                                    exact AllReadyH.nil
                                  exact AllReadyH.nil
                                refine AllReadyH.cons rfl (fun K hK => ?_) ?_
                                · go_simp
                                  refine (n4c.out _).mono ?_
                                  rintro e ws18 ⟨rfl, hb⟩
                                  go_wp2_with fail
                                  refine hK.out _ _ (h5_call hH hws2 hb1 hb1q hb) (fun hH => ?_)
                                  clear hb hK K
                                  (try simp only [Act.put]); (try simp only [List.setIfInBounds_toArray]); (repeat (first | simp only [List.set_cons_succ] | simp only [List.set_cons_zero]))
                                  refine wpAnyH_ready (rs := [23, 28]) (by kernel_rfl) (by simp) ?_
                                  refine AllReadyH.cons rfl (fun K hK => ?_) ?_
                                  · go_simp
                                    refine hK.out _ _ hH (fun hH => ?_)
                                    clear hK K
                                    (try simp only [Act.put]); (try simp only [List.setIfInBounds_toArray]); (repeat (first | simp only [List.set_cons_succ] | simp only [List.set_cons_zero]))
                                    refine wpAnyH_ready (rs := [28]) (by kernel_rfl) (by simp) ?_
                                    refine AllReadyH.cons rfl (fun K hK => ?_) ?_
                                    · go_simp
                                      refine hK.out _ _ hH (fun hH => ?_)
                                      clear hK K
                                      (try simp only [Act.put]); (try simp only [List.setIfInBounds_toArray]); (repeat (first | simp only [List.set_cons_succ] | simp only [List.set_cons_zero]))
                                      refine wpAnyH_ready (rs := [29]) (by kernel_rfl) (by simp) ?_
                                      refine AllReadyH.cons rfl (fun K hK => ?_) ?_
                                      · go_simp
                                        refine hK.out _ _ hH (fun hH => ?_)
                                        clear hK K
                                        (try simp only [Act.put]); (try simp only [List.setIfInBounds_toArray]); (repeat (first | simp only [List.set_cons_succ] | simp only [List.set_cons_zero]))
                                        refine wpAnyH_ready (rs := [30]) (by kernel_rfl) (by simp) ?_
                                        refine AllReadyH.cons rfl (fun K hK => ?_) ?_
                                        · go_simp
                                          refine hK.out _ _ hH (fun hH => ?_)
                                          clear hK K
                                          (try simp only [Act.put]); (try simp only [List.setIfInBounds_toArray]); (repeat (first | simp only [List.set_cons_succ] | simp only [List.set_cons_zero]))
                                          refine wpAnyH_ready (rs := [31]) (by kernel_rfl) (by simp) ?_
                                          refine AllReadyH.cons rfl (fun K hK => ?_) ?_
                                          · go_simp
                                            refine hK.out _ _ hH (fun hH => ?_)
                                            clear hK K
                                            (try simp only [Act.put]); (try simp only [List.setIfInBounds_toArray]); (repeat (first | simp only [List.set_cons_succ] | simp only [List.set_cons_zero]))
                                            refine wpAnyH_take (i := 32) rfl (by kernel_rfl) (by kernel_rfl) (by kernel_rfl) (fun _ _ _ h => h) (yieldsIf_load_mid (by rfl) 29 (.tmp 7) rfl w5.heap.size 0 rfl (cellsOf x) _ (fun w h => h.1.1) hu rfl hi1) hH ?_
                                            (try simp only [Act.put]); (try simp only [List.setIfInBounds_toArray]); (repeat (first | simp only [List.set_cons_succ] | simp only [List.set_cons_zero]))
                                            refine wpAnyH_take (i := 33) rfl (by kernel_rfl) (by kernel_rfl) (by kernel_rfl) (fun _ _ _ h => h) (yieldsIf_load_mid (by rfl) 29 (.tmp 7) rfl w5.heap.size 0 rfl (cellsOf x) _ (fun w h => h.1.1) hu rfl hi1) hH ?_
                                            (try simp only [Act.put]); (try simp only [List.setIfInBounds_toArray]); (repeat (first | simp only [List.set_cons_succ] | simp only [List.set_cons_zero]))
                                            refine wpAnyH_ready (rs := [34]) (by kernel_rfl) (by simp) ?_
                                            refine AllReadyH.cons rfl (fun K hK => ?_) ?_
                                            · go_simp
                                              refine (d5.out _).mono ?_
                                              rintro e ws19 ⟨rfl, hb⟩
                                              go_wp2_with fail
                                              refine hK.out _ _ (h5_call hH hws2 hb1 hb1q hb) (fun hH => ?_)
                                              clear hb hK K
                                              (try simp only [Act.put]); (try simp only [List.setIfInBounds_toArray]); (repeat (first | simp only [List.set_cons_succ] | simp only [List.set_cons_zero]))
                                              refine wpAnyH_ready (rs := [35]) (by kernel_rfl) (by simp) ?_
                                              refine AllReadyH.cons rfl (fun K hK => ?_) ?_
                                              · go_simp
                                                refine (n5c.out _).mono ?_
                                                rintro e ws20 ⟨rfl, hb⟩
                                                go_wp2_with fail
                                                refine hK.out _ _ (h5_call hH hws2 hb1 hb1q hb) (fun hH => ?_)
                                                clear hb hK K
                                                (try simp only [Act.put]); (try simp only [List.setIfInBounds_toArray]); (repeat (first | simp only [List.set_cons_succ] | simp only [List.set_cons_zero]))
                                                refine wpAnyH_ready (rs := [36]) (by kernel_rfl) (by simp) ?_
                                                refine AllReadyH.cons rfl (fun K hK => ?_) ?_
                                                · go_simp
                                                  refine hK.out _ _ hH (fun hH => ?_)
                                                  clear hK K
                                                  (try simp only [Act.put]); (try simp only [List.setIfInBounds_toArray]); (repeat (first | simp only [List.set_cons_succ] | simp only [List.set_cons_zero]))
                                                  refine wpAnyH_ready (rs := [37]) (by kernel_rfl) (by simp) ?_
                                                  refine AllReadyH.cons rfl (fun K hK => ?_) ?_
                                                  · go_simp
                                                    refine hK.out _ _ hH (fun hH => ?_)
                                                    clear hK K
                                                    (try simp only [Act.put]); (try simp only [List.setIfInBounds_toArray]); (repeat (first | simp only [List.set_cons_succ] | simp only [List.set_cons_zero]))
                                                    refine wpAnyH_ready (rs := [38]) (by kernel_rfl) (by simp) ?_
                                                    refine AllReadyH.cons rfl (fun K hK => ?_) ?_
                                                    · go_simp
                                                      refine hK.out _ _ hH (fun hH => ?_)
                                                      clear hK K
                                                      (try simp only [Act.put]); (try simp only [List.setIfInBounds_toArray]); (repeat (first | simp only [List.set_cons_succ] | simp only [List.set_cons_zero]))
                                                      refine wpAnyH_done (by kernel_rfl) ?_ _
                                                      go_wp2_with fail
                                                      go_ret
                                                      exact ⟨rfl, (hbw1.out.trans (hH2.out.2.2.2.1.mono hwA)).trans (hH.1.2.2.2.1.mono (Nat.le_trans hwA hH2.out.2.2.2.2))⟩
                                                    exact AllReadyH.nil
                                                  exact AllReadyH.nil
                                                exact AllReadyH.nil
                                              exact AllReadyH.nil
                                            exact AllReadyH.nil
                                          exact AllReadyH.nil
                                        exact AllReadyH.nil
                                      exact AllReadyH.nil
                                    exact AllReadyH.nil
                                  refine AllReadyH.cons rfl (fun K hK => ?_) ?_
                                  · go_simp
                                    refine hK.out _ _ hH (fun hH => ?_)
                                    clear hK K
                                    (try simp only [Act.put]); (try simp only [List.setIfInBounds_toArray]); (repeat (first | simp only [List.set_cons_succ] | simp only [List.set_cons_zero]))
                                    refine wpAnyH_ready (rs := [23]) (by kernel_rfl) (by simp) ?_
                                    refine AllReadyH.cons rfl (fun K hK => ?_) ?_
                                    · go_simp
                                      refine hK.out _ _ hH (fun hH => ?_)
                                      clear hK K
                                      (try simp only [Act.put]); (try simp only [List.setIfInBounds_toArray]); (repeat (first | simp only [List.set_cons_succ] | simp only [List.set_cons_zero]))
                                      refine wpAnyH_ready (rs := [29]) (by kernel_rfl) (by simp) ?_
                                      refine AllReadyH.cons rfl (fun K hK => ?_) ?_
                                      · go_simp
                                        refine hK.out _ _ hH (fun hH => ?_)
                                        clear hK K
                                        (try simp only [Act.put]); (try simp only [List.setIfInBounds_toArray]); (repeat (first | simp only [List.set_cons_succ] | simp only [List.set_cons_zero]))
                                        refine wpAnyH_ready (rs := [30]) (by kernel_rfl) (by simp) ?_
                                        refine AllReadyH.cons rfl (fun K hK => ?_) ?_
                                        · go_simp
                                          refine hK.out _ _ hH (fun hH => ?_)
                                          clear hK K
                                          (try simp only [Act.put]); (try simp only [List.setIfInBounds_toArray]); (repeat (first | simp only [List.set_cons_succ] | simp only [List.set_cons_zero]))
                                          refine wpAnyH_ready (rs := [31]) (by kernel_rfl) (by simp) ?_
                                          refine AllReadyH.cons rfl (fun K hK => ?_) ?_
                                          · go_simp
                                            refine hK.out _ _ hH (fun hH => ?_)
                                            clear hK K
                                            (try simp only [Act.put]); (try simp only [List.setIfInBounds_toArray]); (repeat (first | simp only [List.set_cons_succ] | simp only [List.set_cons_zero]))
                                            refine wpAnyH_take (i := 32) rfl (by kernel_rfl) (by kernel_rfl) (by kernel_rfl) (fun _ _ _ h => h) (yieldsIf_load_mid (by rfl) 29 (.tmp 7) rfl w5.heap.size 0 rfl (cellsOf x) _ (fun w h => h.1.1) hu rfl hi1) hH ?_
                                            (try simp only [Act.put]); (try simp only [List.setIfInBounds_toArray]); (repeat (first | simp only [List.set_cons_succ] | simp only [List.set_cons_zero]))
                                            refine wpAnyH_take (i := 33) rfl (by kernel_rfl) (by kernel_rfl) (by kernel_rfl) (fun _ _ _ h => h) (yieldsIf_load_mid (by rfl) 29 (.tmp 7) rfl w5.heap.size 0 rfl (cellsOf x) _ (fun w h => h.1.1) hu rfl hi1) hH ?_
                                            (try simp only [Act.put]); (try simp only [List.setIfInBounds_toArray]); (repeat (first | simp only [List.set_cons_succ] | simp only [List.set_cons_zero]))
                                            refine wpAnyH_ready (rs := [34]) (by kernel_rfl) (by simp) ?_
                                            refine AllReadyH.cons rfl (fun K hK => ?_) ?_
                                            · go_simp
                                              refine (d5.out _).mono ?_
                                              rintro e ws21 ⟨rfl, hb⟩
                                              go_wp2_with fail
                                              refine hK.out _ _ (h5_call hH hws2 hb1 hb1q hb) (fun hH => ?_)
                                              clear hb hK K
                                              (try simp only [Act.put]); (try simp only [List.setIfInBounds_toArray]); (repeat (first | simp only [List.set_cons_succ] | simp only [List.set_cons_zero]))
                                              refine wpAnyH_ready (rs := [35]) (by kernel_rfl) (by simp) ?_
                                              refine AllReadyH.cons rfl (fun K hK => ?_) ?_
                                              · go_simp
                                                refine (n5c.out _).mono ?_
                                                rintro e ws22 ⟨rfl, hb⟩
                                                go_wp2_with fail
                                                refine hK.out _ _ (h5_call hH hws2 hb1 hb1q hb) (fun hH => ?_)
                                                clear hb hK K
                                                (try simp only [Act.put]); (try simp only [List.setIfInBounds_toArray]); (repeat (first | simp only [List.set_cons_succ] | simp only [List.set_cons_zero]))
                                                refine wpAnyH_ready (rs := [36]) (by kernel_rfl) (by simp) ?_
                                                refine AllReadyH.cons rfl (fun K hK => ?_) ?_
                                                · go_simp
                                                  refine hK.out _ _ hH (fun hH => ?_)
                                                  clear hK K
                                                  (try simp only [Act.put]); (try simp only [List.setIfInBounds_toArray]); (repeat (first | simp only [List.set_cons_succ] | simp only [List.set_cons_zero]))
                                                  refine wpAnyH_ready (rs := [37]) (by kernel_rfl) (by simp) ?_
                                                  refine AllReadyH.cons rfl (fun K hK => ?_) ?_
                                                  · go_simp
                                                    refine hK.out _ _ hH (fun hH => ?_)
                                                    clear hK K
                                                    (try simp only [Act.put]); (try simp only [List.setIfInBounds_toArray]); (repeat (first | simp only [List.set_cons_succ] | simp only [List.set_cons_zero]))
                                                    refine wpAnyH_ready (rs := [38]) (by kernel_rfl) (by simp) ?_
                                                    refine AllReadyH.cons rfl (fun K hK => ?_) ?_
                                                    · go_simp
                                                      refine hK.out _ _ hH (fun hH => ?_)
                                                      clear hK K
                                                      (try simp only [Act.put]); (try simp only [List.setIfInBounds_toArray]); (repeat (first | simp only [List.set_cons_succ] | simp only [List.set_cons_zero]))
                                                      refine wpAnyH_done (by kernel_rfl) ?_ _
                                                      go_wp2_with fail
                                                      go_ret
                                                      exact ⟨rfl, (hbw1.out.trans (hH2.out.2.2.2.1.mono hwA)).trans (hH.1.2.2.2.1.mono (Nat.le_trans hwA hH2.out.2.2.2.2))⟩
                                                    exact AllReadyH.nil
                                                  exact AllReadyH.nil
                                                exact AllReadyH.nil
                                              exact AllReadyH.nil
                                            exact AllReadyH.nil
                                          exact AllReadyH.nil
                                        exact AllReadyH.nil
                                      exact AllReadyH.nil
                                    exact AllReadyH.nil
                                  exact AllReadyH.nil
                                exact AllReadyH.nil
                              exact AllReadyH.nil
                            exact AllReadyH.nil
                          exact AllReadyH.nil
                        exact AllReadyH.nil
                      exact AllReadyH.nil
                    exact AllReadyH.nil
                  exact AllReadyH.nil
                exact AllReadyH.nil
              exact AllReadyH.nil
            exact AllReadyH.nil
          exact AllReadyH.nil
        exact AllReadyH.nil
      exact AllReadyH.nil

end Go.Proofs.YtijnekbhpdcemaaDoor
