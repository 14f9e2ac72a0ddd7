/- Rows of pairs; comb.mayBeLaid. -/
import Derived.Test.YtjeebcnjdhlcfaaDoorCombP4
import Derived.Test.YtjeebcnjdhlcfaaDoorShape
import Derived.Test.YtjeebcnjdhlcfaaDoorEqInts
import Derived.OneCell
namespace Go.Proofs.YtjeebcnjdhlcfaaDoor
open Go.RowKit
set_option linter.unusedVariables false
set_option linter.unusedSimpArgs false

def pairR (w : World) (cs : List Value) (p : Pr) : Prop := cs = [.int .i64 p.1, .int .i64 p.2]
abbrev PairsV (w : World) (v : Value) (r : List Pr) : Prop := ListV 2 pairR w v r
abbrev prowR : World → List Value → List Pr → Prop := rowR (ListV 2 pairR)
abbrev PRowsV (w : World) (v : Value) (rows : List (List Pr)) : Prop := ListV 1 prowR w v rows
theorem PairsV.below {w w' : World} {v : Value} {r : List Pr} (h : PairsV w v r) (hb : Below w.heap.size w w') : PairsV w' v r := ListV.below h (fun _ _ h => h) hb
theorem prowR.below {w w' : World} {cs : List Value} {r : List Pr} (h : prowR w cs r) (hb : Below w.heap.size w w') : prowR w' cs r := by
  obtain ⟨v, h1, h2⟩ := h; exact ⟨v, h1, PairsV.below h2 hb⟩
theorem PRowsV.below {w w' : World} {v : Value} {rows : List (List Pr)} (h : PRowsV w v rows) (hb : Below w.heap.size w w') : PRowsV w' v rows := ListV.below h (fun _ _ h => prowR.below h hb) hb
/-- a pair's two cells -/
theorem PairsV.open {w : World} {v : Value} {r : List Pr} (h : PairsV w v r) : ∃ a n c, v = .slice a n c ∧ Hid (n = r.length) ∧ n ≤ c ∧ c ≤ 9223372036854775807 ∧
    Hid (∀ i, i < n → ∃ b off, a = some ⟨b, off, none⟩ ∧ w.cell? ⟨b, off + i * 2, none⟩ = some (.int .i64 (r.getD i (0, 0)).1) ∧ w.cell? ⟨b, off + i * 2 + 1, none⟩ = some (.int .i64 (r.getD i (0, 0)).2)) := by
  obtain ⟨a, n, c, h1, h2, h3, h4, h5⟩ := ListV.open h
  refine ⟨a, n, c, h1, h2, h3, h4, Lib.hid (fun i hi => ?_)⟩
  obtain ⟨b, off, cs, x, e1, e2, e3, e4, e5⟩ := h5.out i hi
  have c0 := e5 0 (by omega)
  have c1 := e5 1 (by omega)
  rw [show cs = [.int .i64 x.1, .int .i64 x.2] from e4] at c0 c1
  refine ⟨b, off, e1, ?_, ?_⟩
  · rw [List.getD_eq_getElem?_getD, e2]; simpa using c0
  · rw [List.getD_eq_getElem?_getD, e2]; simpa using c1
/-- a row's cell -/
theorem PRowsV.open {w : World} {v : Value} {rows : List (List Pr)} (h : PRowsV w v rows) : ∃ a n c, v = .slice a n c ∧ Hid (n = rows.length) ∧ n ≤ c ∧ c ≤ 9223372036854775807 ∧
    Hid (∀ i, i < n → ∃ b off u, a = some ⟨b, off, none⟩ ∧ w.cell? ⟨b, off + i, none⟩ = some u ∧ PairsV w u (rowAt rows i)) := by
  obtain ⟨a, n, c, h1, h2, h3, h4, h5⟩ := ListV.open h
  refine ⟨a, n, c, h1, h2, h3, h4, Lib.hid (fun i hi => ?_)⟩
  obtain ⟨b, off, cs, x, e1, e2, e3, ⟨u, e4, e6⟩, e5⟩ := h5.out i hi
  have c0 := e5 0 (by omega)
  subst e4
  refine ⟨b, off, u, e1, by simpa using c0, ?_⟩
  unfold rowAt
  rw [List.getD_eq_getElem?_getD, e2]; exact e6

theorem inRow_any (k : Int) (w : World) : Calls Tryd.prog 26 #[.int .i64 k] w fun e w' => e = .returned (.bool (decide (0 ≤ k ∧ k ≤ 999))) ∧ w = w' := by
  go_enter Tryd.func26, Tryd.ntmps26
  go_wp2
  all_goals
    go_ret
    exact ⟨ret_bool (by rw [Bool.eq_iff_iff]; simp at *; omega), rfl⟩

/-- the pairs ahead of j have a place -/
def seenB (r : List Pr) (j : Nat) (k : Nat) : Bool := (r.take j).any fun p => p.1 == (k : Int)
/-- may the first j pairs be laid? -/
def mayTo (r : List Pr) (j : Nat) : Bool := rowMay (r.take j)

theorem seen_next (r : List Pr) (j k : Nat) (h : j < r.length) : seenB r (j + 1) k = (seenB r j k || (r.getD j (0, 0)).1 == (k : Int)) := by
  unfold seenB
  rw [List.take_succ_eq_append_getElem h, List.any_append, List.getD_eq_getElem?_getD, List.getElem?_eq_getElem h]
  simp
theorem may_next (r : List Pr) (j : Nat) (h : j < r.length) : mayTo r (j + 1) = (mayTo r j && (decide (0 ≤ (r.getD j (0, 0)).1 ∧ (r.getD j (0, 0)).1 ≤ 999) && !((r.take j).any fun p => p.1 == (r.getD j (0, 0)).1))) := by
  unfold mayTo rowMay
  rw [List.take_succ_eq_append_getElem h, List.getD_eq_getElem?_getD, List.getElem?_eq_getElem h, List.all_append, List.map_append]
  rw [Bool.eq_iff_iff]
  simp only [Bool.and_eq_true, decide_eq_true_eq, List.all_cons, List.all_nil, Bool.and_true, List.map_cons, List.map_nil, Option.getD_some, Bool.not_eq_true', List.any_eq_false, beq_iff_eq, List.nodup_append, List.all_eq_true]
  constructor
  · rintro ⟨⟨h1, h2⟩, h3, h4, h5⟩
    refine ⟨⟨h1, h3⟩, h2, fun p hp e => ?_⟩
    exact h5 p.1 (List.mem_map_of_mem hp) r[j].1 (by simp) e
  · rintro ⟨⟨h1, h3⟩, h2, h5⟩
    refine ⟨⟨h1, h2⟩, h3, by simp, fun a ha b hb e => ?_⟩
    obtain ⟨p, hp, rfl⟩ := List.mem_map.1 ha
    simp only [List.mem_singleton] at hb
    exact h5 p hp (by rw [e, hb])
theorem may_mono (r : List Pr) (j : Nat) (h : mayTo r j = false) : rowMay r = false := by
  cases hr : rowMay r with
  | false => rfl
  | true =>
    rw [← h]
    unfold mayTo
    unfold rowMay at hr ⊢
    rw [Bool.and_eq_true, List.all_eq_true, decide_eq_true_eq] at hr
    symm
    rw [Bool.and_eq_true, List.all_eq_true, decide_eq_true_eq]
    refine ⟨fun p hp => hr.1 p (List.mem_of_mem_take hp), ?_⟩
    rw [List.map_take]
    exact hr.2.sublist (List.take_sublist _ _)
theorem may_all (r : List Pr) (j : Nat) (h : r.length ≤ j) (hm : mayTo r j = true) : rowMay r = true := by
  unfold mayTo at hm
  rwa [List.take_of_length_le h] at hm
theorem mayS_not (rows : List (List Pr)) (i : Nat) (hi : i < rows.length) (h : rowMay (rowAt rows i) = false) : mayS rows = false := by
  cases hm : mayS rows with
  | false => rfl
  | true => rw [mayS_row hm i hi] at h; cases h
theorem mayS_yes (rows : List (List Pr)) (hl : rows.length ≤ 400) (h : ∀ i, i < rows.length → rowMay (rowAt rows i) = true) : mayS rows = true := by
  unfold mayS
  rw [Bool.and_eq_true, decide_eq_true_eq, List.all_eq_true]
  refine ⟨hl, fun r hr => ?_⟩
  obtain ⟨i, hi, rfl⟩ := List.mem_iff_getElem.1 hr
  have := h i hi
  unfold rowAt at this
  rwa [List.getD_eq_getElem?_getD, List.getElem?_eq_getElem hi] at this
theorem mayS_long (rows : List (List Pr)) (hl : 400 < rows.length) : mayS rows = false := by
  unfold mayS
  rw [decide_eq_false (by omega)]; rfl

/-- a block of a thousand answers -/
def SeenAt (w : World) (g : Nat) (f : Nat → Bool) : Prop := ∀ k, k < 1000 → w.cell? ⟨g, k, none⟩ = some (.bool (f k)) ∧ w.frozen? ⟨g, k, none⟩ = false

theorem SeenAt.put {w : World} {g : Nat} {f f' : Nat → Bool} (h : SeenAt w g f) {q : Nat} (hq : q < 1000) (hg : g < w.heap.size) (o : Obj) (hf : ∀ k, f' k = (f k || decide (k = q))) : SeenAt ((w.setCell ⟨g, q, none⟩ (.bool true)).alloc o) g f' := by
  intro k hk
  obtain ⟨ck, fk⟩ := h k hk
  have hs : g < (w.setCell ⟨g, q, none⟩ (.bool true)).heap.size := by simpa [World.setCell] using hg
  refine ⟨?_, ?_⟩
  · rw [World.cell?_alloc_past _ _ _ hs, hf]
    by_cases e : q = k
    · subst e
      rw [World.cell?_setCell_same _ _ _ ck]; simp
    · rw [World.cell?_setCell_other _ _ _ _ (by intro e2; injection e2; exact e ‹_›), ck, decide_eq_false (by omega), Bool.or_false]
  · rw [World.frozen?_alloc_past _ _ _ hs, World.frozen?_setCell]; exact fk

theorem Tryd.infoSeen : (Tryd.prog.info? 55).map (fun i => (i.zero, i.size, i.bytes)) = some (some (.agg (Array.replicate 1000 (.bool false))), 1000, 1000) := by kernel_rfl
theorem zero_seen : ∃ Z : Array Value, (∀ k, k < 1000 → Z[k]? = some (.bool false)) ∧ ∀ W, (zeroValue 55).run Tryd.prog W = .ok (.agg Z) W := by
  obtain ⟨i, hi, hz, _, _⟩ := info_parts Tryd.infoSeen
  refine ⟨Array.replicate 1000 (.bool false), fun k hk => ?_, fun W => ?_⟩
  · rw [Array.getElem?_replicate, if_pos hk]
  · simp [zeroValue, typeInfo, hi, hz]

set_option maxRecDepth 100000 in
set_option maxHeartbeats 4000000 in
theorem mayBeLaid_any (v : Value) (rows : List (List Pr)) (w : World) (h : PRowsV w v rows) :
    Calls Tryd.prog 20 #[v] w fun e w' => e = .returned (.bool (mayS rows)) ∧ Below w.heap.size w w' := by
  obtain ⟨a, n, c, rfl, hn, hnc, hcm, hx⟩ := h.open
  clear h
  by_cases hbig : 400 < n
  · have HX := Lib.hid (mayS_long rows (by rw [← hn.out]; exact hbig))
    have hbI : (400 : Int) < (n : Int) := by omega
    go_enter Tryd.func20, Tryd.ntmps20
    go_wp2_with fail
    go_ret
    exact ⟨ret_bool HX.out.symm, Below.refl _ _⟩
  · have hbI : ¬ (400 : Int) < (n : Int) := by omega
    go_enter Tryd.func20, Tryd.ntmps20
    go_wp2_with fail
    go_loopw [13] (fun i wr => ∃ k : Nat, k ≤ n ∧ i = .int .i64 k ∧ Below w.heap.size w wr ∧ Hid (∀ j, j < k → rowMay (rowAt rows j) = true)) (fun i _ => n - (intOf i).toNat)
    case atStart => exact ⟨0, Nat.zero_le _, rfl, Below.refl _ _, Lib.hid (fun j hj => absurd hj (Nat.not_lt_zero _))⟩
    case round =>
      obtain ⟨k, hk, rfl, hbr, hp⟩ := hrel
      by_cases hlt : k < n
      · obtain ⟨b1, o1, u1, rfl, c1, i1⟩ := hx.out k hlt
        replace c1 := (hbr.cell (World.block_lt_of_cell? _ _ c1)).trans c1
        obtain ⟨a2, m, c2, rfl, hm, hmc, hcm2, hx2⟩ := (PairsV.below i1 hbr).open
        have hkI : (k : Int) < (n : Int) := by omega
        obtain ⟨Z, hZ, hzv⟩ := zero_seen
        have HZ := Lib.hid hZ
        clear hZ
        have hrow := Lib.hid (show m = (rowAt rows k).length from hm.out)
        have HP := Lib.hid (fun (h : rowMay (rowAt rows k) = true) => (show ∀ j, j < k + 1 → rowMay (rowAt rows j) = true from fun j hj => by
          by_cases e : j = k
          · subst e; exact h
          · exact hp.out j (by omega)))
        have HN := Lib.hid (fun (h : rowMay (rowAt rows k) = false) => mayS_not rows k (by have := hn.out; omega) h)
        generalize rowAt rows k = r at hrow HP HN hx2
        clear hm i1 hp
        go_wp2_with fail
        have hs5 : ∀ Zt, SeenAt (wr.alloc (.cells Z Zt)) wr.heap.size (fun _ => false) := fun Zt j hj => by
          refine ⟨?_, free_of_block (heap_alloc_new wr _)⟩
          rw [World.cell?_alloc_at _ _ _ _ rfl]
          exact HZ.out j hj
        have hb5 : ∀ o, Below w.heap.size w (wr.alloc o) := fun o => hbr.alloc hbr.size o
        have hg5 : ∀ o, wr.heap.size < (wr.alloc o).heap.size := fun o => by simp
        have hbi : ∀ o, Below wr.heap.size wr (wr.alloc o) := fun o => (Below.refl _ _).alloc (Nat.le_refl _) o
        replace hs5 := hs5 55
        replace hb5 := hb5 (.cells Z 55)
        replace hg5 := hg5 (.cells Z 55)
        replace hbi := hbi (.cells Z 55)
        have hsr := hbr.size
        generalize wr.alloc (.cells Z 55) = w5 at hs5 hb5 hg5 hbi ⊢
        generalize hg : wr.heap.size = g at hs5 hg5
        have hgw : w.heap.size ≤ g := by omega
        have HX2 := Lib.hid (fun i (hi : i < m) (W : World) (hW : Below wr.heap.size wr W) => (show ∃ b off, a2 = some ⟨b, off, none⟩ ∧ W.cell? ⟨b, off + i * 2, none⟩ = some (.int .i64 (r.getD i (0, 0)).1) ∧ W.cell? ⟨b, off + i * 2 + 1, none⟩ = some (.int .i64 (r.getD i (0, 0)).2) from by
          obtain ⟨b, off, e, c1, c2⟩ := hx2.out i hi
          exact ⟨b, off, e, (hW.cell (World.block_lt_of_cell? _ _ c1)).trans c1, (hW.cell (World.block_lt_of_cell? _ _ c2)).trans c2⟩))
        clear hx2 hzv HZ c1
        go_loopw [19] (fun i w6 => ∃ j : Nat, j ≤ m ∧ i = .int .i64 j ∧ Below w.heap.size w w6 ∧ Below wr.heap.size wr w6 ∧ SeenAt w6 g (seenB r j) ∧ g < w6.heap.size ∧ Hid (mayTo r j = true)) (fun i _ => m - (intOf i).toNat)
        case atStart => exact ⟨0, Nat.zero_le _, rfl, hb5, hbi, hs5, hg5, Lib.hid rfl⟩
        case round =>
          clear hs5 hb5 hg5 hbi
          obtain ⟨j, hj, rfl, hb6, hbi6, hs6, hg6, hm6⟩ := hrel
          rename World => w6
          by_cases hjm : j < m
          · obtain ⟨b2, o2, rfl, d1, d2⟩ := HX2.out j hjm w6 hbi6
            have hjI : (j : Int) < (m : Int) := by omega
            generalize hp : r.getD j (0, 0) = p at d1 d2
            obtain ⟨pa, pv⟩ := p
            simp only at d1 d2
            have hmn := may_next r j (by have := hrow.out; omega)
            rw [hp, hm6.out] at hmn
            have hsn : ∀ k', seenB r (j + 1) k' = (seenB r j k' || pa == (k' : Int)) := fun k' => by
              rw [seen_next r j k' (by have := hrow.out; omega), hp]
            have hin := Lib.hid (fun W => inRow_any pa W)
            by_cases hr : 0 ≤ pa ∧ pa ≤ 999
            · obtain ⟨q, rfl⟩ : ∃ q : Nat, pa = (q : Int) := ⟨pa.toNat, by omega⟩
              have hq : q < 1000 := by omega
              have hqI : (q : Int) < 1000 := by omega
              have hrd : decide ((0 : Int) ≤ (q : Int) ∧ (q : Int) ≤ 999) = true := decide_eq_true hr
              rw [hrd] at hin hmn
              obtain ⟨cq, fq⟩ := hs6 q hq
              have hany : ((r.take j).any fun p => p.1 == (q : Int)) = seenB r j q := rfl
              simp only [hany] at hmn
              have HS := Lib.hid hsn
              have H6 := Lib.hid hs6
              cases hsq : seenB r j q with
              | true =>
                rw [hsq] at cq hmn
                have HX := Lib.hid (HN.out (may_mono r (j + 1) (by simpa using hmn)))
                clear hmn hsn hs6 hsq hany hrd hr
                go_wp2_with (first | (go_at_call 26; refine (hin.out _).mono ?_; rintro e w9 ⟨rfl, rfl⟩))
                go_ret
                exact ⟨ret_bool HX.out.symm, hb6.alloc hb6.size _⟩
              | false =>
                rw [hsq] at cq hmn
                have HM := Lib.hid (show mayTo r (j + 1) = true by simpa using hmn)
                clear hmn hsn hs6 hsq hany hrd hr
                go_wp2_with (first | (go_at_call 26; refine (hin.out _).mono ?_; rintro e w9 ⟨rfl, rfl⟩))
                have hb7 := (hb6.setCell (p := ⟨g, q, none⟩) hgw (.bool true)).alloc (by simpa [World.setCell] using hb6.size) (.cells #[.int .i64 (q : Int), .int .i64 pv] 39)
                have hbi7 := (hbi6.setCell (p := ⟨g, q, none⟩) (by show _ ≤ g; omega) (.bool true)).alloc (by simpa [World.setCell] using hbi6.size) (.cells #[.int .i64 (q : Int), .int .i64 pv] 39)
                go_roundw
                case rel =>
                  refine ⟨j + 1, by omega, by go_num, hb7, hbi7, H6.out.put hq hg6 _ (fun k' => ?_), ?_, HM⟩
                  · rw [HS.out k']
                    congr 1
                    rw [Bool.eq_iff_iff]; simp; omega
                  · simp [World.setCell]; omega
                case measure => simp [intOf]; omega
            · have hrd : decide (0 ≤ pa ∧ pa ≤ 999) = false := decide_eq_false hr
              rw [hrd] at hin hmn
              have HX := Lib.hid (HN.out (may_mono r (j + 1) (by simpa using hmn)))
              clear hmn hsn hrd hr
              go_wp2_with (first | (go_at_call 26; refine (hin.out _).mono ?_; rintro e w9 ⟨rfl, rfl⟩))
              go_ret
              exact ⟨ret_bool HX.out.symm, hb6.alloc hb6.size _⟩
          · have hm7 := Lib.hid (HP.out (may_all r j (by have := hrow.out; omega) hm6.out))
            go_wp2_with fail
            go_roundw
            case rel => exact ⟨k + 1, by omega, by go_num, hb6, hm7⟩
            case measure => simp [intOf]; omega
      · have HX := Lib.hid (mayS_yes rows (by have := hn.out; omega) (fun i hi => hp.out i (by have := hn.out; omega)))
        go_wp2_with fail
        go_ret
        exact ⟨ret_bool HX.out.symm, hbr⟩

end Go.Proofs.YtjeebcnjdhlcfaaDoor
