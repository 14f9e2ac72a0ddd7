/- graph.Close. -/
import Derived.Test.YtijnekbhpdcemaaDoorGrCloseP
import Derived.Test.YtijnekbhpdcemaaDoorGrSets16
import Derived.Test.YtijnekbhpdcemaaDoorGrWalk
import Derived.Test.YtijnekbhpdcemaaDoorList
import Derived.Test.YtijnekbhpdcemaaDoorGrTail
namespace Go.Proofs.YtijnekbhpdcemaaDoor
open Go.RowKit
set_option linter.unusedVariables false
set_option linter.unusedSimpArgs false

theorem Tryd.infoSet : (Tryd.prog.info? 29).map (fun i => (i.zero, i.size, i.bytes)) = some (some (.agg (setA noWords)), 16, 128) := by kernel_rfl

theorem run_make_sets (m : Nat) (hm : m ≤ 1000000) (w : World) :
    (Instr.makeSlice 57 (.int .i64 (m : Int)) (.int .i64 (m : Int))).run Tryd.prog w = .ok (.slice (some ⟨w.heap.size, 0, none⟩) m m) (w.alloc (.cells (madeCells (setA noWords) (m * 16)) 29)) := by
  obtain ⟨i, hi, hz, hs, hb⟩ := info_parts Tryd.infoSet
  have hr := run_make (P := Tryd.prog) w 57 29 i (.agg (setA noWords)) Tryd.underlying57 hi hz .i64 .i64 m m (by omega) (Int.le_refl _) (by rw [hb]; omega) (by omega)
  simp only [Int.toNat_natCast, hs] at hr
  exact hr
theorem SetsV.made {w : World} {B m : Nat} (hB : B ≤ w.heap.size) : SetsV (w.alloc (.cells (madeCells (setA noWords) (m * 16)) 29)) B w.heap.size m (fun _ => noWords) := by
  refine ⟨hB, ⟨_, heap_alloc_new _ _, size_madeCells _ _, fun c hc i hi => ?_⟩, fun c hc => ⟨rfl, by decide⟩⟩
  have hlt : c * 16 + i < m * 16 := by omega
  have h16 : (c * 16 + i) % 16 = i := by omega
  have hsz : (setA noWords).size = 16 := rfl
  have hg : (setA noWords)[i]? = some (.int .u64 (noWords.getD i 0 : Nat)) := setA_get noWords i hi
  unfold madeCells
  rw [Array.getElem?_map, Array.getElem?_eq_getElem (by simpa using hlt), Array.getElem_range]
  show some ((setA noWords)[(c * 16 + i) % (setA noWords).size]!) = _
  rw [hsz, h16, getElem!_pos (setA noWords) i (by omega)]
  rw [Array.getElem?_eq_getElem (by omega)] at hg
  exact hg

def UpdS (F : Nat → List Nat) (c : Nat) (ws : List Nat) : Nat → List Nat := fun d => if d = c then ws else F d

theorem upd_upd (F : Nat → List Nat) (c : Nat) (ws ws' : List Nat) : (fun d => if d = c then ws' else UpdS F c ws d) = UpdS F c ws' := by
  funext d
  unfold UpdS
  by_cases e : d = c
  · rw [if_pos e, if_pos e]
  · rw [if_neg e, if_neg e, if_neg e]

theorem yields_set {ops : Array Oper} {T : World → Prop} {o : Oper} {a : Act} {x : Operand} {g off : Nat} {ws : List Nat} (hw : Region.wanted o (yielded ops a.tmps) = true) (ho : o.op = .load 29 x) (hx : a.eval x = .pointer (some ⟨g, off, none⟩)) (hl : ws.length = 16)
    (hS : ∀ W, T W → W.rangeAt g off (setA ws).toList) : YieldsIf Tryd.prog ops T o (.agg (setA ws)) a := by
  have := yieldsIf_load_mid (P := Tryd.prog) (S := T) hw 29 x ho g off hx (setA ws).toList _ hS Tryd.underlying29 rfl (by rw [setInfo_of ws hl, Array.length_toList])
  simpa using this

theorem ints_setCell {W : World} {v : Value} {l : List Int} {g i : Nat} (u : Value) (h : IntsV W v l) (hne : ∀ k, v.ownBlock = some k → k ≠ g) : IntsV (W.setCell ⟨g, i, none⟩ u) v l := by
  obtain ⟨a, c, rfl, h1, h2, h3, h4⟩ := h
  refine ⟨a, c, rfl, h1, h2, h3, fun j hj => ?_⟩
  obtain ⟨b, off, rfl, hcell⟩ := h4 j hj
  refine ⟨b, off, rfl, ?_⟩
  rw [World.cell?_setCell_other _ _ _ _ (fun e => hne b rfl (congrArg Addr.block e).symm)]
  exact hcell

/-- what stands for each node, the first k laid -/
structure Filled (W : World) (g n : Nat) (f : Nat → Value) (R : Nat → List Int) (k : Nat) : Prop where
  row : W.rowIs g 22 n f
  ints : ∀ i, i < k → IntsV W (f i) (R i) ∧ ∀ b, (f i).ownBlock = some b → b ≠ g
theorem Filled.more {W W' : World} {g n : Nat} {f : Nat → Value} {R : Nat → List Int} {k : Nat} (h : Filled W g n f R k) (hb : Below W.heap.size W W') : Filled W' g n f R k :=
  ⟨h.row.of_block (hb.block _ h.row.lt), fun i hi => ⟨(h.ints i hi).1.below hb, (h.ints i hi).2⟩⟩
theorem Filled.next {W : World} {g n : Nat} {f : Nat → Value} {R : Nat → List Int} {k : Nat} {v : Value} (h : Filled W g n f R k) (hv : IntsV W v (R k)) (hne : ∀ b, v.ownBlock = some b → b ≠ g) :
    Filled (W.setCell ⟨g, k, none⟩ v) g n (fun j => if j = k then v else f j) R (k + 1) := by
  refine ⟨h.row.set k v, fun i hi => ?_⟩
  by_cases e : i = k
  · subst e
    rw [if_pos rfl]
    exact ⟨ints_setCell v hv hne, hne⟩
  · rw [if_neg e]
    obtain ⟨h1, h2⟩ := h.ints i (by omega)
    exact ⟨ints_setCell v h1 h2, h2⟩
theorem Filled.rows {W : World} {g n : Nat} {f : Nat → Value} {R : Nat → List Int} (h : Filled W g n f R n) (hn : n ≤ 1000000) : RowsV W (.slice (some ⟨g, 0, none⟩) n n) ((List.range n).map R) := by
  refine ⟨(List.range n).map f, ⟨some ⟨g, 0, none⟩, n, by simp, by simp, by omega, (fun h => by cases h), fun i hi => ?_⟩, by simp, fun i hi => ?_⟩
  · have hi' : i < n := by simpa using hi
    refine ⟨g, 0, rfl, ?_⟩
    rw [Nat.zero_add, h.row.cell hi']
    simp [List.getD_eq_getElem?_getD, hi']
  · have hi' : i < n := by simpa using hi
    have := (h.ints i hi').1
    simpa [List.getD_eq_getElem?_getD, hi'] using this

set_option maxHeartbeats 40000000 in
set_option maxRecDepth 100000 in
theorem closeG_any (L S : List (List Int)) (rv sv : Value) (w : World) (h : RowsV w rv L) (hs : RowsV w sv S) (hn : L.length ≤ 1000000) (hT : TabAt 0 Lib.deBruijn64tab w) :
    Calls Tryd.prog 33 #[rv, sv] w (ClosePostG L S w) := by
  obtain ⟨ra, rn, rc, rfl, hrn, hrc, hrm, hrx⟩ := h.open
  obtain rfl : rn = L.length := hrn.out
  by_cases hbig : 4000 < L.length
  · have hbI : (4000 : Int) < (L.length : Int) := by omega
    clear hrx h hrn hrc hrm
    go_enter Tryd.func33, Tryd.ntmps33
    go_wp2_with (fail)
    go_ret
    exact ⟨⟨_, [], rfl, RowsV.nil _, fun h => absurd h (by omega), fun _ => rfl⟩, Below.refl _ _⟩
  · have hbI : ¬ (4000 : Int) < (L.length : Int) := by omega
    have HX := Lib.hid (walk_any L _ w h hn)
    have HRV := Lib.hid h
    have HSV := Lib.hid hs
    have HTB := Lib.hid hT
    clear hrx h hs hrn hrc hrm hT
    go_enter Tryd.func33, Tryd.ntmps33
    go_wp2_with (fail)
    refine HX.out.mono ?_
    rintro e w1 ⟨tg, b, ob, lb, cb, ov, cv, vs, s, rfl, hw, hscc, hb1, hcl⟩
    have hc5 : w1.cell? ⟨b, 5, none⟩ = some cv := hw.rb.cell (i := 5) (by omega)
    obtain ⟨ca, cc, rfl⟩ := owns_slice hw.rcv
    have hm4 : s.cps.length ≤ 4000 := by omega
    have hmk := fun (W : World) => run_make_sets s.cps.length (by omega) W
    have HW := Lib.hid hw
    have HSC := Lib.hid hscc
    have hbl := hw.rb.lt
    have hsz1 := hb1.size
    have hst := SetsV.made (w := w1) (B := w1.heap.size) (m := s.cps.length) (Nat.le_refl _)
    have hb2 := (Below.refl w1.heap.size w1).alloc (Nat.le_refl _) (.cells (madeCells (setA noWords) (s.cps.length * 16)) 29)
    clear hw hscc HX
    go_wp2_with (fail)
    generalize w1.alloc (.cells (madeCells (setA noWords) (s.cps.length * 16)) 29) = w2 at hst hb2 ⊢
    have hsv1 : w1.heap.size < w2.heap.size := hst.lt
    go_loopw [31] (fun x W => ∃ (c : Nat) (F : Nat → List Nat), c ≤ s.cps.length ∧ x = .int .i64 c ∧ SetsV W w1.heap.size w1.heap.size s.cps.length F ∧ Below w1.heap.size w1 W ∧ Hid (∀ d, d < c → CSet L S (s.cps.getD d []) (F d)) ∧ Hid (∀ d, c ≤ d → d < s.cps.length → F d = noWords)) (fun x _ => s.cps.length - (intOf x).toNat)
    case atStart => exact ⟨0, _, Nat.zero_le _, rfl, hst, hb2, Lib.hid (fun d hd => absurd hd (Nat.not_lt_zero _)), Lib.hid (fun d _ _ => rfl)⟩
    case round =>
      clear hst hb2
      obtain ⟨c, F, hc, rfl, hF, hb2, hdone, hrest⟩ := hrel
      rename World => w3
      by_cases hlt : c < s.cps.length
      · have hcI : (c : Int) < (s.cps.length : Int) := by omega
        have hrow := HW.out.rcv
        obtain ⟨gv, cap, hge, hg1, hg2, hg3, hg4⟩ := owns_at hrow (by omega)
        cases hge
        have hvl : vs.length = s.cps.length := by have := hrow.1; omega
        have hcv : w1.cell? ⟨gv, c, none⟩ = some (vs.getD c undef) := by
          rw [hrow.cellAt c (by omega), List.getD_eq_getElem?_getD, List.getElem?_eq_getElem (by omega)]; rfl
        have hcv2 := (hb2.cell (World.block_lt_of_cell? _ _ hcv)).trans hcv
        have hmi := IntsV.of_owns (HW.out.mem c hlt)
        obtain ⟨ma, mn, mc, hme, hmn, _, _, hmx⟩ := hmi.open
        obtain rfl := hmn.out
        rw [hme] at hcv2
        have HF := Lib.hid hF
        have HD := Lib.hid (And.intro hdone.out hrest.out)
        have hlen := scc_len HSC.out hlt
        have hMN : ∀ k, k < (s.cps.getD c []).length → NodeOf L ((s.cps.getD c []).getD k 0) := fun k hk => ((HSC.out.of c hlt).2.2 _ (get_mem hk)).1
        clear hrow hcv hmi hme hF hdone hrest hmn
        generalize hM : s.cps.getD c [] = M at hmx hcv2 hlen hMN
        have HM := Lib.hid hM
        clear hM
        go_wp2_with (fail)
        go_loopw [38] (fun x W => ∃ (k : Nat) (ws : List Nat), k ≤ M.length ∧ x = .int .i64 k ∧ SetsV W w1.heap.size w1.heap.size s.cps.length (UpdS F c ws) ∧ Below w1.heap.size w1 W ∧ Hid (PartC L S s.cmp M c F ws k)) (fun x _ => M.length - (intOf x).toNat)
        case atStart =>
          refine ⟨0, noWords, Nat.zero_le _, rfl, ?_, hb2, Lib.hid (PartC.start L S s.cmp _ c F)⟩
          have : UpdS F c noWords = F := by funext d; unfold UpdS; split; { next e => rw [e]; exact (HD.out.2 c (Nat.le_refl _) hlt).symm }; rfl
          rw [this]; exact HF.out
        case round =>
          obtain ⟨k, ws, hk, rfl, hF2, hb3, hP⟩ := hrel
          rename World => w4
          by_cases hkl : k < M.length
          · have hkI : (k : Int) < (M.length : Int) := by omega
            obtain ⟨mb, mo, rfl, hck⟩ := hmx.out k hkl
            have hck2 := (hb3.cell (World.block_lt_of_cell? _ _ hck)).trans hck
            have hvN := hMN k hkl
            generalize hv : M.getD k 0 = v at hck2 hvN
            obtain ⟨nv, rfl⟩ : ∃ nv : Nat, v = nv := ⟨v.toNat, by have := hvN.1; omega⟩
            have hnv : nv < L.length := by have := hvN.2; omega
            have HV := Lib.hid hv
            clear hck hvN hv
            go_wp2_with (fail)
            have hL16 := hF2.len c hlt
            have hupd : UpdS F c ws c = ws := if_pos rfl
            rw [hupd] at hL16
            have hown := Lib.hid (fun W hW => own_any sv S nv W (HSV.out.below hW))
            have hor := Lib.hid (fun W => or_any ws (ofS (S.getD nv [])) W hL16.1 (ofS_length _) hL16.2 (ofS_lt _))
            have hbw4 : Below w.heap.size w w4 := hb1.trans (hb3.mono hsz1)
            have hg4 := hF2.lt
            have HQ0 := Lib.hid (And.intro hF2 (And.intro hb3 (And.intro hbw4 (And.intro hL16 hupd))))
            obtain ⟨T, hT0⟩ : ∃ T : World → Prop, T = fun W => Below w4.heap.size w4 W := ⟨_, rfl⟩
            have q5 : Hid (∀ W, T W → W.rangeAt w1.heap.size (c * 16) (setA ws).toList) := Lib.hid (fun W hW => by
              rw [hT0] at hW
              have e := (HQ0.out.1.moved (hW.block _ hg4)).cell hlt
              rw [HQ0.out.2.2.2.2] at e
              exact e)
            have hS0 : T w4.drew := by rw [hT0]; exact (Below.refl _ _).drew
            clear hF2 hL16 hupd hb3 hbw4
            refine to_start T 11 (by kernel_rfl) ?_
            change To Tryd.prog _ _ _ 11 12 [false, false, false, false, false, false, false, false, false, false, false, false] _ _
            refine to_take 0 (v := ?v1) (t' := ?u1) (by rfl) (by kernel_rfl) (by kernel_rfl) ?hq1 ?hy1 hS0 ?ht1 ?rest1
            case hq1 => exact fun _ _ _ h => h
            case hy1 =>
              refine Or.inl ⟨by rfl, fun W hSW => ?_⟩
              go_simp
              try with_reducible rfl
            case ht1 => first | (simp only [Act.put, List.setIfInBounds_toArray, List.set_cons_zero, List.set_cons_succ]; done) | (simp only [Act.put, List.setIfInBounds_toArray, List.set_cons_zero, List.set_cons_succ]; rfl) | rfl
            refine to_take 1 (v := ?v2) (t' := ?u2) (by rfl) (by kernel_rfl) (by kernel_rfl) ?hq2 ?hy2 hS0 ?ht2 ?rest2
            case hq2 => exact fun _ _ _ h => h
            case hy2 =>
              refine Or.inl ⟨by rfl, fun W hSW => ?_⟩
              go_simp
              try with_reducible rfl
            case ht2 => first | (simp only [Act.put, List.setIfInBounds_toArray, List.set_cons_zero, List.set_cons_succ]; done) | (simp only [Act.put, List.setIfInBounds_toArray, List.set_cons_zero, List.set_cons_succ]; rfl) | rfl
            refine to_take 2 (v := ?v3) (t' := ?u3) (by rfl) (by kernel_rfl) (by kernel_rfl) ?hq3 ?hy3 hS0 ?ht3 ?rest3
            case hq3 => exact fun _ _ _ h => h
            case hy3 =>
              refine Or.inl ⟨by rfl, fun W hSW => ?_⟩
              go_simp
              try with_reducible rfl
            case ht3 => first | (simp only [Act.put, List.setIfInBounds_toArray, List.set_cons_zero, List.set_cons_succ]; done) | (simp only [Act.put, List.setIfInBounds_toArray, List.set_cons_zero, List.set_cons_succ]; rfl) | rfl
            refine to_take 3 (v := ?v4) (t' := ?u4) (by rfl) (by kernel_rfl) (by kernel_rfl) ?hq4 ?hy4 hS0 ?ht4 ?rest4
            case hq4 => exact fun _ _ _ h => h
            case hy4 =>
              refine Or.inl ⟨by rfl, fun W hSW => ?_⟩
              go_simp
              try with_reducible rfl
            case ht4 => first | (simp only [Act.put, List.setIfInBounds_toArray, List.set_cons_zero, List.set_cons_succ]; done) | (simp only [Act.put, List.setIfInBounds_toArray, List.set_cons_zero, List.set_cons_succ]; rfl) | rfl
            refine to_take 4 (v := ?v5) (t' := ?u5) (by rfl) (by kernel_rfl) (by kernel_rfl) ?hq5 ?hy5 hS0 ?ht5 ?rest5
            case hq5 => exact fun _ _ _ h => h
            case hy5 =>
              refine Or.inl ⟨by rfl, fun W hSW => ?_⟩
              go_simp
              try with_reducible rfl
            case ht5 => first | (simp only [Act.put, List.setIfInBounds_toArray, List.set_cons_zero, List.set_cons_succ]; done) | (simp only [Act.put, List.setIfInBounds_toArray, List.set_cons_zero, List.set_cons_succ]; rfl) | rfl
            refine to_take 5 (v := .agg (setA ws)) (t' := ?u6) (by rfl) (by kernel_rfl) (by kernel_rfl) ?hq6 ?hy6 hS0 ?ht6 ?rest6
            case hq6 => exact fun _ _ _ h => h
            case hy6 => exact yields_set (by rfl) (by rfl) (by rfl) HQ0.out.2.2.2.1.1 q5.out
            case ht6 => first | (simp only [Act.put, List.setIfInBounds_toArray, List.set_cons_zero, List.set_cons_succ]; done) | (simp only [Act.put, List.setIfInBounds_toArray, List.set_cons_zero, List.set_cons_succ]; rfl) | rfl
            refine to_take 6 (v := ?v7) (t' := ?u7) (by rfl) (by kernel_rfl) (by kernel_rfl) ?hq7 ?hy7 hS0 ?ht7 ?rest7
            case hq7 => exact fun _ _ _ h => h
            case hy7 =>
              refine Or.inl ⟨by rfl, fun W hSW => ?_⟩
              go_simp
              try with_reducible rfl
            case ht7 => first | (simp only [Act.put, List.setIfInBounds_toArray, List.set_cons_zero, List.set_cons_succ]; done) | (simp only [Act.put, List.setIfInBounds_toArray, List.set_cons_zero, List.set_cons_succ]; rfl) | rfl
            refine to_take 7 (v := ?v8) (t' := ?u8) (by rfl) (by kernel_rfl) (by kernel_rfl) ?hq8 ?hy8 hS0 ?ht8 ?rest8
            case hq8 => exact fun _ _ _ h => h
            case hy8 =>
              refine Or.inl ⟨by rfl, fun W hSW => ?_⟩
              go_simp
              try with_reducible rfl
            case ht8 => first | (simp only [Act.put, List.setIfInBounds_toArray, List.set_cons_zero, List.set_cons_succ]; done) | (simp only [Act.put, List.setIfInBounds_toArray, List.set_cons_zero, List.set_cons_succ]; rfl) | rfl
            refine to_one 8 (by kernel_rfl) (by rfl) (by rfl) (fun K hK => ?_)
            go_simp
            go_at_call 48
            refine (hown.out _ HQ0.out.2.2.1.drew).mono ?_
            rintro e w7 ⟨rfl, hb7⟩
            go_wp2_with (fail)
            have hS7 : T w7 := by rw [hT0]; exact (Below.refl _ _).drew.trans hb7
            have hb47 : Below w4.heap.size w4 w7 := (Below.refl _ _).drew.trans hb7
            refine hK.out _ _ ⟨fun _ => hS7, ?_⟩
            clear hK K hS0 hb7
            simp only [Act.put, List.setIfInBounds_toArray, List.set_cons_zero, List.set_cons_succ]
            refine to_one 9 (by kernel_rfl) (by rfl) (by rfl) (fun K hK => ?_)
            go_simp
            go_at_call 23
            refine (hor.out _).mono ?_
            rintro e w8 ⟨rfl, hb8⟩
            go_wp2_with (fail)
            have hb48 : Below w4.heap.size w4 w8 := hb47.trans (hb8.mono hb47.size)
            have hS8 : T w8 := by rw [hT0]; exact hb48
            refine hK.out _ _ ⟨fun _ => hS8, ?_⟩
            clear hK K hS7 hb47 hb8
            simp only [Act.put, List.setIfInBounds_toArray, List.set_cons_zero, List.set_cons_succ]
            refine to_take 10 (v := ?v9) (t' := ?u9) (by rfl) (by kernel_rfl) (by kernel_rfl) ?hq9 ?hy9 hS8 ?ht9 ?rest9
            case hq9 => exact fun _ _ _ h => h
            case hy9 =>
              refine Or.inl ⟨by rfl, fun W hSW => ?_⟩
              go_simp
              try with_reducible rfl
            case ht9 => first | (simp only [Act.put, List.setIfInBounds_toArray, List.set_cons_zero, List.set_cons_succ]; done) | (simp only [Act.put, List.setIfInBounds_toArray, List.set_cons_zero, List.set_cons_succ]; rfl) | rfl
            obtain ⟨old, ho1, ho2, ho3⟩ := (HQ0.out.1.moved (hb48.block _ hg4)).stored hlt (orS_len HQ0.out.2.2.2.1.1 (ofS_length (S.getD nv []))) (orS_lt HQ0.out.2.2.2.1.2 (ofS_lt (S.getD nv [])))
            rw [upd_upd] at ho3
            have hb9 : Below w1.heap.size w1 (w8.setRow w1.heap.size (partRow old (c * 16) (setA (orS ws (ofS (S.getD nv [])))))) := below_setRow (HQ0.out.2.1.trans (hb48.mono HQ0.out.2.1.size)) (Nat.le_refl _) _
            refine to_one 11 (by kernel_rfl) (by rfl) (by rfl) (fun K hK => ?_)
            refine wp_store_part 29 _ _ (by rfl) w1.heap.size (c * 16) (setA (orS ws (ofS (S.getD nv [])))) (by rfl) (by rfl) 29 old ho1 (setInfo_of _ (orS_len HQ0.out.2.2.2.1.1 (ofS_length (S.getD nv [])))) ho2 (setA_one _) ?_
            refine hK.out _ _ ⟨fun h => absurd h (by omega), to_done (by kernel_rfl) ?_⟩
            clear hK K hS8 hb48 ho1 ho2
            simp only [Act.put]
            generalize w8.setRow w1.heap.size (partRow old (c * 16) (setA (orS ws (ofS (S.getD nv []))))) = w9 at ho3 hb9 ⊢
            have hS9 : SetsV w9 w1.heap.size w1.heap.size s.cps.length (UpdS F c (orS ws (ofS (S.getD nv [])))) := ho3
            have hN0 := PartC.node HSC.out hlt (by rw [HM.out]; exact hP.out) (by rw [HM.out]; exact hkl) HQ0.out.2.2.2.1.1
            rw [HM.out, HV.out, Int.toNat_natCast] at hN0
            have HN := Lib.hid hN0
            clear hN0 ho3 hown hor HQ0 hT0 q5 T hg4
            obtain ⟨rb, ro, xa, xn, xc, hre, hx0, hx1, hx2, hx3, hx4⟩ := row_at HRV.out nv hnv
            cases hre
            have hbw9 : Below w.heap.size w w9 := hb1.trans (hb9.mono hsz1)
            have hq9 := (hbw9.cell (World.block_lt_of_cell? _ _ hx0)).trans hx0
            have hnvI : (nv : Int) < (L.length : Int) := by omega
            go_wp2_with (fail)
            go_loopw [58] (fun x W => ∃ (t : Nat) (ws2 : List Nat), t ≤ xn ∧ x = .int .i64 t ∧ SetsV W w1.heap.size w1.heap.size s.cps.length (UpdS F c ws2) ∧ Below w1.heap.size w1 W ∧ Hid (PartN L S s.cmp M c F ws2 k t)) (fun x _ => xn - (intOf x).toNat)
            case atStart => exact ⟨0, _, Nat.zero_le _, rfl, hS9, hb9, HN⟩
            case round =>
              clear hS9 hb9 HN hbw9 hq9
              obtain ⟨t, ws2, ht, rfl, hS5, hb5, hP2⟩ := hrel
              rename World => w5
              by_cases htl : t < xn
              · have htI : (t : Int) < (xn : Int) := by omega
                obtain ⟨xb, xo, rfl, hj0⟩ := hx4.out t htl
                have hbw5 : Below w.heap.size w w5 := hb1.trans (hb5.mono hsz1)
                have hj1 := (hbw5.cell (World.block_lt_of_cell? _ _ hj0)).trans hj0
                have hkb : (t : Int) + 1 ≤ 9223372036854775807 := by omega
                have htL : t < (L.getD nv []).length := by rw [← hx1.out]; exact htl
                generalize hj : (L.getD nv []).getD t 0 = j at hj1
                have hc0 : w5.cell? ⟨b, 0, none⟩ = some (.slice (some ⟨rb, ro, none⟩) L.length rc) := (hb5.cell hbl).trans (HW.out.rb.cell (i := 0) (by omega))
                have HJ := Lib.hid (And.intro hj (And.intro htL (And.intro htl ht)))
                clear hj hj0 hbw5 htL htl ht
                by_cases hnode : 0 ≤ j ∧ j < (L.length : Int)
                · obtain ⟨nj, rfl⟩ : ∃ nj : Nat, j = nj := ⟨j.toNat, by omega⟩
                  have hnj : nj < L.length := by omega
                  have hnjI : (nj : Int) < (L.length : Int) := by omega
                  have hnI := Lib.hid (isNode_any b (some ⟨rb, ro, none⟩) L.length rc nj true w5 hc0 (by omega) (by simp [hnode]))
                  obtain ⟨m0, m1, m2⟩ := HSC.out.at_ nj ⟨by omega, by omega⟩
                  have hc3 : w5.cell? ⟨b, 3, none⟩ = some (.slice (some ⟨cb, 0, none⟩) L.length L.length) := (hb5.cell hbl).trans (HW.out.rb.cell (i := 3) (by omega))
                  have hcc : w5.cell? ⟨cb, nj, none⟩ = some (.int .i64 (s.cmp nj)) := (hb5.cell HW.out.rc.lt).trans (HW.out.rc.cell hnj)
                  obtain ⟨c2, hc2⟩ : ∃ c2 : Nat, s.cmp nj = c2 := ⟨(s.cmp nj).toNat, by omega⟩
                  rw [hc2] at hcc
                  have hc2m : c2 < s.cps.length := by omega
                  have hc2I : (c2 : Int) < (s.cps.length : Int) := by omega
                  have hL16 := hS5.len c hlt
                  have hK16 := hS5.len c2 hc2m
                  have hupd : UpdS F c ws2 c = ws2 := if_pos rfl
                  rw [hupd] at hL16
                  have hor := Lib.hid (fun W => or_any ws2 (UpdS F c ws2 c2) W hL16.1 hK16.1 hL16.2 hK16.2)
                  have hg5 := hS5.lt
                  have HQ0 := Lib.hid (And.intro hS5 (And.intro hb5 (And.intro hL16 (And.intro hK16 (And.intro hupd (And.intro hc2 (And.intro m1 m0)))))))
                  obtain ⟨T, hT0⟩ : ∃ T : World → Prop, T = fun W => Below w5.heap.size w5 W := ⟨_, rfl⟩
                  have q5 : Hid (∀ W, T W → W.rangeAt w1.heap.size (c * 16) (setA ws2).toList) := Lib.hid (fun W hW => by
                    rw [hT0] at hW
                    have e := (HQ0.out.1.moved (hW.block _ hg5)).cell hlt
                    rw [HQ0.out.2.2.2.2.1] at e
                    exact e)
                  have q15 : Hid (∀ W, T W → W.rangeAt w1.heap.size (c2 * 16) (setA (UpdS F c ws2 c2)).toList) := Lib.hid (fun W hW => by
                    rw [hT0] at hW
                    exact (HQ0.out.1.moved (hW.block _ hg5)).cell hc2m)
                  have q10 : Hid (∀ W, T W → W.cell? ⟨b, 3, none⟩ = some (.slice (some ⟨cb, 0, none⟩) L.length L.length)) := Lib.hid (fun W hW => by
                    rw [hT0] at hW
                    exact (hW.cell (World.block_lt_of_cell? _ _ hc3)).trans hc3)
                  have q13 : Hid (∀ W, T W → W.cell? ⟨cb, nj, none⟩ = some (.int .i64 c2)) := Lib.hid (fun W hW => by
                    rw [hT0] at hW
                    exact (hW.cell (World.block_lt_of_cell? _ _ hcc)).trans hcc)
                  have hS0 : T w5.drew := by rw [hT0]; exact (Below.refl _ _).drew
                  clear hL16 hK16 hupd hS5 hb5 m0 m1 m2 hc2 hc0 hkb
                  go_wp2_with (first
                    | (go_at_call 49; refine hnI.out.mono ?_; rintro e w6 ⟨rfl, rfl⟩))
                  refine to_start T 18 (by kernel_rfl) ?_
                  change To Tryd.prog _ _ _ 18 19 [false, false, false, false, false, false, false, false, false, false, false, false, false, false, false, false, false, false, false] _ _
                  refine to_take 0 (v := ?v10) (t' := ?u10) (by rfl) (by kernel_rfl) (by kernel_rfl) ?hq10 ?hy10 hS0 ?ht10 ?rest10
                  case hq10 => exact fun _ _ _ h => h
                  case hy10 =>
                    refine Or.inl ⟨by rfl, fun W hSW => ?_⟩
                    go_simp
                    try with_reducible rfl
                  case ht10 => first | (simp only [Act.put, List.setIfInBounds_toArray, List.set_cons_zero, List.set_cons_succ]; done) | (simp only [Act.put, List.setIfInBounds_toArray, List.set_cons_zero, List.set_cons_succ]; rfl) | rfl
                  refine to_take 1 (v := ?v11) (t' := ?u11) (by rfl) (by kernel_rfl) (by kernel_rfl) ?hq11 ?hy11 hS0 ?ht11 ?rest11
                  case hq11 => exact fun _ _ _ h => h
                  case hy11 =>
                    refine Or.inl ⟨by rfl, fun W hSW => ?_⟩
                    go_simp
                    try with_reducible rfl
                  case ht11 => first | (simp only [Act.put, List.setIfInBounds_toArray, List.set_cons_zero, List.set_cons_succ]; done) | (simp only [Act.put, List.setIfInBounds_toArray, List.set_cons_zero, List.set_cons_succ]; rfl) | rfl
                  refine to_take 2 (v := ?v12) (t' := ?u12) (by rfl) (by kernel_rfl) (by kernel_rfl) ?hq12 ?hy12 hS0 ?ht12 ?rest12
                  case hq12 => exact fun _ _ _ h => h
                  case hy12 =>
                    refine Or.inl ⟨by rfl, fun W hSW => ?_⟩
                    go_simp
                    try with_reducible rfl
                  case ht12 => first | (simp only [Act.put, List.setIfInBounds_toArray, List.set_cons_zero, List.set_cons_succ]; done) | (simp only [Act.put, List.setIfInBounds_toArray, List.set_cons_zero, List.set_cons_succ]; rfl) | rfl
                  refine to_take 3 (v := ?v13) (t' := ?u13) (by rfl) (by kernel_rfl) (by kernel_rfl) ?hq13 ?hy13 hS0 ?ht13 ?rest13
                  case hq13 => exact fun _ _ _ h => h
                  case hy13 =>
                    refine Or.inl ⟨by rfl, fun W hSW => ?_⟩
                    go_simp
                    try with_reducible rfl
                  case ht13 => first | (simp only [Act.put, List.setIfInBounds_toArray, List.set_cons_zero, List.set_cons_succ]; done) | (simp only [Act.put, List.setIfInBounds_toArray, List.set_cons_zero, List.set_cons_succ]; rfl) | rfl
                  refine to_take 4 (v := ?v14) (t' := ?u14) (by rfl) (by kernel_rfl) (by kernel_rfl) ?hq14 ?hy14 hS0 ?ht14 ?rest14
                  case hq14 => exact fun _ _ _ h => h
                  case hy14 =>
                    refine Or.inl ⟨by rfl, fun W hSW => ?_⟩
                    go_simp
                    try with_reducible rfl
                  case ht14 => first | (simp only [Act.put, List.setIfInBounds_toArray, List.set_cons_zero, List.set_cons_succ]; done) | (simp only [Act.put, List.setIfInBounds_toArray, List.set_cons_zero, List.set_cons_succ]; rfl) | rfl
                  refine to_take 5 (v := .agg (setA ws2)) (t' := ?u15) (by rfl) (by kernel_rfl) (by kernel_rfl) ?hq15 ?hy15 hS0 ?ht15 ?rest15
                  case hq15 => exact fun _ _ _ h => h
                  case hy15 => exact yields_set (by rfl) (by rfl) (by rfl) HQ0.out.2.2.1.1 q5.out
                  case ht15 => first | (simp only [Act.put, List.setIfInBounds_toArray, List.set_cons_zero, List.set_cons_succ]; done) | (simp only [Act.put, List.setIfInBounds_toArray, List.set_cons_zero, List.set_cons_succ]; rfl) | rfl
                  refine to_take 6 (v := ?v16) (t' := ?u16) (by rfl) (by kernel_rfl) (by kernel_rfl) ?hq16 ?hy16 hS0 ?ht16 ?rest16
                  case hq16 => exact fun _ _ _ h => h
                  case hy16 =>
                    refine Or.inl ⟨by rfl, fun W hSW => ?_⟩
                    go_simp
                    try with_reducible rfl
                  case ht16 => first | (simp only [Act.put, List.setIfInBounds_toArray, List.set_cons_zero, List.set_cons_succ]; done) | (simp only [Act.put, List.setIfInBounds_toArray, List.set_cons_zero, List.set_cons_succ]; rfl) | rfl
                  refine to_take 7 (v := ?v17) (t' := ?u17) (by rfl) (by kernel_rfl) (by kernel_rfl) ?hq17 ?hy17 hS0 ?ht17 ?rest17
                  case hq17 => exact fun _ _ _ h => h
                  case hy17 =>
                    refine Or.inl ⟨by rfl, fun W hSW => ?_⟩
                    go_simp
                    try with_reducible rfl
                  case ht17 => first | (simp only [Act.put, List.setIfInBounds_toArray, List.set_cons_zero, List.set_cons_succ]; done) | (simp only [Act.put, List.setIfInBounds_toArray, List.set_cons_zero, List.set_cons_succ]; rfl) | rfl
                  refine to_take 8 (v := ?v18) (t' := ?u18) (by rfl) (by kernel_rfl) (by kernel_rfl) ?hq18 ?hy18 hS0 ?ht18 ?rest18
                  case hq18 => exact fun _ _ _ h => h
                  case hy18 =>
                    refine Or.inl ⟨by rfl, fun W hSW => ?_⟩
                    go_simp
                    try with_reducible rfl
                  case ht18 => first | (simp only [Act.put, List.setIfInBounds_toArray, List.set_cons_zero, List.set_cons_succ]; done) | (simp only [Act.put, List.setIfInBounds_toArray, List.set_cons_zero, List.set_cons_succ]; rfl) | rfl
                  refine to_take 9 (v := ?v19) (t' := ?u19) (by rfl) (by kernel_rfl) (by kernel_rfl) ?hq19 ?hy19 hS0 ?ht19 ?rest19
                  case hq19 => exact fun _ _ _ h => h
                  case hy19 =>
                    refine Or.inl ⟨by rfl, fun W hSW => ?_⟩
                    go_simp
                    try with_reducible rfl
                  case ht19 => first | (simp only [Act.put, List.setIfInBounds_toArray, List.set_cons_zero, List.set_cons_succ]; done) | (simp only [Act.put, List.setIfInBounds_toArray, List.set_cons_zero, List.set_cons_succ]; rfl) | rfl
                  refine to_take 10 (v := ?v20) (t' := ?u20) (by rfl) (by kernel_rfl) (by kernel_rfl) ?hq20 ?hy20 hS0 ?ht20 ?rest20
                  case hq20 => exact fun _ _ _ h => h
                  case hy20 =>
                    refine Or.inl ⟨by rfl, fun W hSW => ?_⟩
                    have z0 := q10.out W hSW
                    go_simp
                    try with_reducible rfl
                  case ht20 => first | (simp only [Act.put, List.setIfInBounds_toArray, List.set_cons_zero, List.set_cons_succ]; done) | (simp only [Act.put, List.setIfInBounds_toArray, List.set_cons_zero, List.set_cons_succ]; rfl) | rfl
                  refine to_take 11 (v := ?v21) (t' := ?u21) (by rfl) (by kernel_rfl) (by kernel_rfl) ?hq21 ?hy21 hS0 ?ht21 ?rest21
                  case hq21 => exact fun _ _ _ h => h
                  case hy21 =>
                    refine Or.inl ⟨by rfl, fun W hSW => ?_⟩
                    go_simp
                    try with_reducible rfl
                  case ht21 => first | (simp only [Act.put, List.setIfInBounds_toArray, List.set_cons_zero, List.set_cons_succ]; done) | (simp only [Act.put, List.setIfInBounds_toArray, List.set_cons_zero, List.set_cons_succ]; rfl) | rfl
                  refine to_take 12 (v := ?v22) (t' := ?u22) (by rfl) (by kernel_rfl) (by kernel_rfl) ?hq22 ?hy22 hS0 ?ht22 ?rest22
                  case hq22 => exact fun _ _ _ h => h
                  case hy22 =>
                    refine Or.inl ⟨by rfl, fun W hSW => ?_⟩
                    go_simp
                    try with_reducible rfl
                  case ht22 => first | (simp only [Act.put, List.setIfInBounds_toArray, List.set_cons_zero, List.set_cons_succ]; done) | (simp only [Act.put, List.setIfInBounds_toArray, List.set_cons_zero, List.set_cons_succ]; rfl) | rfl
                  refine to_take 13 (v := ?v23) (t' := ?u23) (by rfl) (by kernel_rfl) (by kernel_rfl) ?hq23 ?hy23 hS0 ?ht23 ?rest23
                  case hq23 => exact fun _ _ _ h => h
                  case hy23 =>
                    refine Or.inl ⟨by rfl, fun W hSW => ?_⟩
                    have z0 := q13.out W hSW
                    go_simp
                    try with_reducible rfl
                  case ht23 => first | (simp only [Act.put, List.setIfInBounds_toArray, List.set_cons_zero, List.set_cons_succ]; done) | (simp only [Act.put, List.setIfInBounds_toArray, List.set_cons_zero, List.set_cons_succ]; rfl) | rfl
                  refine to_take 14 (v := ?v24) (t' := ?u24) (by rfl) (by kernel_rfl) (by kernel_rfl) ?hq24 ?hy24 hS0 ?ht24 ?rest24
                  case hq24 => exact fun _ _ _ h => h
                  case hy24 =>
                    refine Or.inl ⟨by rfl, fun W hSW => ?_⟩
                    go_simp
                    try with_reducible rfl
                  case ht24 => first | (simp only [Act.put, List.setIfInBounds_toArray, List.set_cons_zero, List.set_cons_succ]; done) | (simp only [Act.put, List.setIfInBounds_toArray, List.set_cons_zero, List.set_cons_succ]; rfl) | rfl
                  refine to_take 15 (v := .agg (setA (UpdS F c ws2 c2))) (t' := ?u25) (by rfl) (by kernel_rfl) (by kernel_rfl) ?hq25 ?hy25 hS0 ?ht25 ?rest25
                  case hq25 => exact fun _ _ _ h => h
                  case hy25 => exact yields_set (by rfl) (by rfl) (by rfl) HQ0.out.2.2.2.1.1 q15.out
                  case ht25 => first | (simp only [Act.put, List.setIfInBounds_toArray, List.set_cons_zero, List.set_cons_succ]; done) | (simp only [Act.put, List.setIfInBounds_toArray, List.set_cons_zero, List.set_cons_succ]; rfl) | rfl
                  refine to_one 16 (by kernel_rfl) (by rfl) (by rfl) (fun K hK => ?_)
                  go_simp
                  go_at_call 23
                  refine (hor.out _).mono ?_
                  rintro e w8 ⟨rfl, hb8⟩
                  go_wp2_with (fail)
                  have hb58 : Below w6.heap.size w6 w8 := (Below.refl _ _).drew.trans hb8
                  have hS8 : T w8 := by rw [hT0]; exact hb58
                  refine hK.out _ _ ⟨fun _ => hS8, ?_⟩
                  clear hK K hS0 hb8
                  simp only [Act.put, List.setIfInBounds_toArray, List.set_cons_zero, List.set_cons_succ]
                  refine to_take 17 (v := ?v26) (t' := ?u26) (by rfl) (by kernel_rfl) (by kernel_rfl) ?hq26 ?hy26 hS8 ?ht26 ?rest26
                  case hq26 => exact fun _ _ _ h => h
                  case hy26 =>
                    refine Or.inl ⟨by rfl, fun W hSW => ?_⟩
                    go_simp
                    try with_reducible rfl
                  case ht26 => first | (simp only [Act.put, List.setIfInBounds_toArray, List.set_cons_zero, List.set_cons_succ]; done) | (simp only [Act.put, List.setIfInBounds_toArray, List.set_cons_zero, List.set_cons_succ]; rfl) | rfl
                  obtain ⟨old, ho1, ho2, ho3⟩ := (HQ0.out.1.moved (hb58.block _ hg5)).stored hlt (orS_len HQ0.out.2.2.1.1 HQ0.out.2.2.2.1.1) (orS_lt HQ0.out.2.2.1.2 HQ0.out.2.2.2.1.2)
                  rw [upd_upd] at ho3
                  have hb9 : Below w1.heap.size w1 (w8.setRow w1.heap.size (partRow old (c * 16) (setA (orS ws2 (UpdS F c ws2 c2))))) := below_setRow (HQ0.out.2.1.trans (hb58.mono HQ0.out.2.1.size)) (Nat.le_refl _) _
                  refine to_one 18 (by kernel_rfl) (by rfl) (by rfl) (fun K hK => ?_)
                  refine wp_store_part 29 _ _ (by rfl) w1.heap.size (c * 16) (setA (orS ws2 (UpdS F c ws2 c2))) (by rfl) (by rfl) 29 old ho1 (setInfo_of _ (orS_len HQ0.out.2.2.1.1 HQ0.out.2.2.2.1.1)) ho2 (setA_one _) ?_
                  refine hK.out _ _ ⟨fun h => absurd h (by omega), to_done (by kernel_rfl) ?_⟩
                  clear hK K hS8 hb58 ho1 ho2
                  simp only [Act.put]
                  generalize w8.setRow w1.heap.size (partRow old (c * 16) (setA (orS ws2 (UpdS F c ws2 c2)))) = w9 at ho3 hb9 ⊢
                  have hN1 : PartN L S s.cmp M c F (orS ws2 (UpdS F c ws2 c2)) k (t + 1) := by
                    obtain ⟨e1, e2, e3, e4, e5, e6, e7, e8⟩ := HQ0.out
                    have h1 := PartN.succ HSC.out hlt HD.out.1 (fun d hd => (HF.out.len d hd).1) (by rw [HM.out]; exact hP2.out) (by rw [HM.out]; exact hkl) e3.1 (t := t) (u := (nj : Int)) (by rw [HM.out, HV.out, Int.toNat_natCast]; exact HJ.out.2.1) (by rw [HM.out, HV.out, Int.toNat_natCast]; exact HJ.out.1) ⟨by omega, by omega⟩
                    rw [HM.out, e6, Int.toNat_natCast] at h1
                    exact h1
                  have HQ := Lib.hid (And.intro ho3 (And.intro hb9 hN1))
                  clear ho3 hb9 hN1 hor HQ0 hT0 q5 q10 q13 q15 T
                  have hkb : (t : Int) + 1 ≤ 9223372036854775807 := by have := HJ.out.2.2.1; omega
                  clear hx2
                  go_wp2_with (fail)
                  go_roundw
                  case rel => exact ⟨t + 1, _, HJ.out.2.2.1, by go_num, HQ.out.1, HQ.out.2.1, Lib.hid HQ.out.2.2⟩
                  case measure => have := HJ.out.2.2.1; simp [intOf]; omega
                · have hnI := Lib.hid (isNode_any b (some ⟨rb, ro, none⟩) L.length rc j false w5 hc0 (by omega) (by simp; omega))
                  have HQ := Lib.hid (And.intro hS5 (And.intro hb5 (hP2.out.skip (fun u hu hn => hnode (by rw [HV.out, Int.toNat_natCast, HJ.out.1] at hu; rw [hu]; exact hn)))))
                  clear hS5 hb5 hc0
                  go_wp2_with (first
                    | (go_at_call 49; refine hnI.out.mono ?_; rintro e w6 ⟨rfl, rfl⟩))
                  go_roundw
                  case rel => exact ⟨t + 1, ws2, HJ.out.2.2.1, by go_num, HQ.out.1, HQ.out.2.1, Lib.hid HQ.out.2.2⟩
                  case measure => have := HJ.out.2.2.1; simp [intOf]; omega
              · have HQ := Lib.hid (And.intro hS5 (And.intro hb5 (hP2.out.fin (by rw [HV.out, Int.toNat_natCast, ← hx1.out]; omega))))
                clear hS5 hb5
                go_wp2_with (fail)
                go_roundw
                case rel => first | exact ⟨k + 1, ws2, by omega, by go_num, HQ.out.1, HQ.out.2.1, Lib.hid HQ.out.2.2⟩ | ((repeat apply Exists.intro); exact ⟨⟨by omega, by go_num, HQ.out.1, HQ.out.2.1, Lib.hid HQ.out.2.2⟩, rfl⟩)
                case measure => simp [intOf]; omega
          · obtain rfl : k = M.length := by omega
            have hP0 := hP.out
            have hcs : CSet L S (s.cps.getD c []) ws := PartC.done HSC.out hlt HD.out.1 (by rw [HM.out]; exact hP0)
            have hd1 : ∀ d, d < c + 1 → CSet L S (s.cps.getD d []) (UpdS F c ws d) := fun d hd => by
              unfold UpdS
              by_cases e : d = c
              · rw [if_pos e, e]; exact hcs
              · rw [if_neg e]; exact HD.out.1 d (by omega)
            have hd2 : ∀ d, c + 1 ≤ d → d < s.cps.length → UpdS F c ws d = noWords := fun d hd hl => by
              unfold UpdS
              rw [if_neg (by omega)]; exact HD.out.2 d (by omega) hl
            have HQ := Lib.hid (And.intro hF2 (And.intro hb3 (And.intro hd1 (And.intro hd2 hlt))))
            clear hP0 hcs hd1 hd2 hF2 hb3 hP hk hkl
            go_wp2_with (fail)
            go_roundw
            case rel => exact ⟨c + 1, _, HQ.out.2.2.2.2, by go_num, HQ.out.1, HQ.out.2.1, Lib.hid HQ.out.2.2.1, Lib.hid HQ.out.2.2.2.1⟩
            case measure => have := HQ.out.2.2.2.2; simp [intOf]; omega
      · obtain rfl : c = s.cps.length := by omega
        have hnI4 : L.length ≤ 4000 := by omega
        have hmk2 := fun (W : World) => run_make_row' (P := Tryd.prog) 45 22 (.slice none 0 0) 24 Tryd.underlying45 Tryd.infoRow rfl .i64 .i64 L.length (by omega) (by omega) W
        have hr0 := World.rowIs_made w3 (.slice none 0 0) L.length 22
        have hF0 := hF.moved (Below.heap_alloc w3 (.cells (madeCells #[.slice none 0 0] L.length) 22) _ hF.lt)
        have hb0 : Below w1.heap.size w1 (w3.alloc (.cells (madeCells #[.slice none 0 0] L.length) 22)) := hb2.alloc hb2.size _
        have hB3 : w1.heap.size ≠ w3.heap.size := Nat.ne_of_lt hF.lt
        have hB4 := hb2.size
        clear hF hb2
        go_wp2_with (fail)
        generalize w3.alloc (.cells (madeCells #[.slice none 0 0] L.length) 22) = w4 at hr0 hF0 hb0 ⊢
        generalize w3.heap.size = g2 at hr0 hB3 hB4 ⊢
        go_loopw [91] (fun x W => ∃ (i : Nat) (f : Nat → Value), i ≤ L.length ∧ x = .int .i64 i ∧ SetsV W w1.heap.size w1.heap.size s.cps.length F ∧ Below w1.heap.size w1 W ∧ Filled W g2 L.length f (fun j : Nat => membersS (F (s.cmp j).toNat)) i) (fun x _ => L.length - (intOf x).toNat)
        case atStart => exact ⟨0, _, Nat.zero_le _, rfl, hF0, hb0, hr0, fun i hi => absurd hi (Nat.not_lt_zero _)⟩
        case round =>
          clear hr0 hF0 hb0 hmk2
          obtain ⟨i, f, hi, rfl, hF5, hb5, hfl⟩ := hrel
          rename World => w5
          by_cases hil : i < L.length
          · have hiI : (i : Int) < (L.length : Int) := by omega
            have hrow := hfl.row
            obtain ⟨m0, m1, m2⟩ := HSC.out.at_ i ⟨by omega, by omega⟩
            have hc3 : w5.cell? ⟨b, 3, none⟩ = some (.slice (some ⟨cb, 0, none⟩) L.length L.length) := (hb5.cell hbl).trans (HW.out.rb.cell (i := 3) (by omega))
            have hcc : w5.cell? ⟨cb, i, none⟩ = some (.int .i64 (s.cmp i)) := (hb5.cell HW.out.rc.lt).trans (HW.out.rc.cell hil)
            obtain ⟨c2, hc2⟩ : ∃ c2 : Nat, s.cmp i = c2 := ⟨(s.cmp i).toNat, by omega⟩
            rw [hc2] at hcc
            have hc2m : c2 < s.cps.length := by omega
            have hc2I : (c2 : Int) < (s.cps.length : Int) := by omega
            have hbw5 : Below w.heap.size w w5 := hb1.trans (hb5.mono hsz1)
            have hg5 := hF5.lt
            have hg2l := hrow.lt
            have hlist := Lib.hid (fun (W : World) (hW : Below w.heap.size w W) => list_any (F c2) W (hF5.len c2 hc2m).1 (hF5.len c2 hc2m).2 (tab_below HTB.out hW (World.block_lt_of_cell? _ _ (HTB.out 0 (by decide)))))
            have HST := Lib.hid (And.intro hF5 (And.intro hb5 hbw5))
            have HFL := Lib.hid hfl
            have q11 := Lib.hid (hF5.cell hc2m)
            have HI2 := Lib.hid (show (Tryd.prog.info? 29).map (·.size) = some (setA (F c2)).toList.length by rw [setInfo_of _ (hF5.len c2 hc2m).1, Array.length_toList])
            have HC2 := Lib.hid hc2
            have hin : i < L.length := hil
            have HRW := Lib.hid hrow
            clear hF5 hb5 hbw5 hfl m0 m1 m2 hc2
            go_wp2_with (first | (refine wpList_load_part rfl 29 _ rfl w1.heap.size (c2 * 16) rfl (setA (F c2)).toList _ q11.out Tryd.underlying29 rfl HI2.out ?_))
            refine (hlist.out _ HST.out.2.2).mono ?_
            rintro e w8 ⟨lv, rfl, hown, hb8⟩
            obtain ⟨la, lc, rfl⟩ := owns_slice hown
            have hcg : w8.cell? ⟨g2, i, none⟩ = some (f i) := (hb8.cell hrow.lt).trans (hrow.cell hin)
            have hfz : w8.frozen? ⟨g2, i, none⟩ = false := (hb8.frozen hrow.lt).trans (hrow.frozen i)
            have HOW := Lib.hid hown
            have hb58 := Lib.hid hb8
            clear hown hb8
            go_wp2_with (fail)
            have hv : IntsV w8 (.slice la (membersS (F c2)).length lc) (membersS (F c2)) := IntsV.of_owns HOW.out
            have hblk : ∀ k, (Value.slice la (membersS (F c2)).length lc).ownBlock = some k → k ≠ g2 := fun k hk e => by
              have := (HOW.out.lt k hk).1
              have : w5.heap.size ≤ k := this
              omega
            have hf9 : Filled (w8.setCell ⟨g2, i, none⟩ (.slice la (membersS (F c2)).length lc)) g2 L.length (fun j => if j = i then (.slice la (membersS (F c2)).length lc) else f j) (fun j : Nat => membersS (F (s.cmp j).toNat)) (i + 1) :=
              (HFL.out.more hb58.out).next (by rw [HC2.out, Int.toNat_natCast]; exact hv) hblk
            have hb9 : Below w1.heap.size w1 (w8.setCell ⟨g2, i, none⟩ (.slice la (membersS (F c2)).length lc)) := (HST.out.2.1.trans (hb58.out.mono HST.out.2.1.size)).setCell hB4 _
            have hF9 : SetsV (w8.setCell ⟨g2, i, none⟩ (.slice la (membersS (F c2)).length lc)) w1.heap.size w1.heap.size s.cps.length F := (HST.out.1.moved (hb58.out.block _ hg5)).moved (Below.heap_setCell _ _ _ _ hB3)
            generalize w8.setCell ⟨g2, i, none⟩ (.slice la (membersS (F c2)).length lc) = w9 at hf9 hb9 hF9 ⊢
            have HQ := Lib.hid (And.intro hF9 (And.intro hb9 hf9))
            clear hF9 hb9 hf9 hv hblk hlist q11 hb58 HOW
            have hkb : (i : Int) + 1 ≤ 9223372036854775807 := by omega
            go_wp2_with (fail)
            go_roundw
            case rel => exact ⟨i + 1, _, by omega, by go_num, HQ.out.1, HQ.out.2.1, HQ.out.2.2⟩
            case measure => simp [intOf]; omega
          · obtain rfl : i = L.length := by omega
            have hR := hfl.rows (by omega)
            have hC : IsClose L S ((List.range L.length).map (fun j : Nat => membersS (F (s.cmp j).toNat))) := by
              refine ⟨by simp, fun i hi => ?_⟩
              obtain ⟨m0, m1, m2⟩ := HSC.out.at_ i ⟨by omega, by omega⟩
              have hcs := hdone.out (s.cmp i).toNat (by omega)
              have := cset_row hcs m2
              simpa [List.getD_eq_getElem?_getD, hi] using this
            have HQ := Lib.hid (And.intro hR (And.intro hC (hb1.trans (hb5.mono hsz1))))
            clear hR hC hF5 hb5 hfl
            go_wp2_with (fail)
            go_ret
            exact ⟨⟨_, _, rfl, HQ.out.1, fun _ => HQ.out.2.1, fun h => absurd h hbig⟩, HQ.out.2.2⟩

end Go.Proofs.YtijnekbhpdcemaaDoor
