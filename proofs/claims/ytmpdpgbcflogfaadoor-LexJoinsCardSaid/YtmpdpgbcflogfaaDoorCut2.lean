/- Cut: an action's text cut into pieces. -/
import Derived.Test.YtmpdpgbcflogfaaDoorPiece
import Derived.Test.YtmpdpgbcflogfaaDoorApp
import Derived.Maps.AppendAt
import Derived.Deep.AppendLies
import Derived.Deep.RegionHeld3
import Derived.Deep.DeepCutAuto
namespace Go.Proofs.YtmpdpgbcflogfaaDoor
section
open Go.RowKit
set_option linter.unusedVariables false

theorem Tryd.infoPiece : (Tryd.prog.info? 28).map (fun i => (i.zero, i.size, i.bytes)) = some (some (.agg #[.int .i64 0, .string ByteArray.empty, .int .i64 0, .string ByteArray.empty]), 4, 48) := by kernel_rfl

def pcs (L : List Pc) : List Value := L.flatMap Pc.cells
theorem pcs_len (L : List Pc) : (pcs L).length = L.length * 4 := by
  induction L with
  | nil => rfl
  | cons p L ih => unfold pcs at *; rw [List.flatMap_cons, List.length_append, ih]; simp [Pc.cells]; omega
theorem pcs_app (L M : List Pc) : pcs (L ++ M) = pcs L ++ pcs M := by unfold pcs; rw [List.flatMap_append]
theorem pcs_one (p : Pc) : pcs [p] = [.int .i64 p.kind, .string p.text, .int .i64 p.num, .string p.tag] := rfl
theorem pc_cells_one (p : Pc) : ∀ u ∈ pcs [p], u.oneCell' = true := by
  intro u hu
  rw [pcs_one] at hu
  simp at hu
  rcases hu with rfl | rfl | rfl | rfl <;> rfl

def txtL (s : ByteArray) : List Pc := if s.size = 0 then [] else [⟨1, s, 0, ByteArray.empty⟩]

/-- a row that grows -/
def RowGoes (base : Nat) (L : List Pc) (w : World) (v : Value) (e : Ending) (w' : World) : Prop :=
  ∃ v', e = .returned v' ∧ w'.ownsRow base 28 4 v' L.length (pcs L) ∧ w.grownBy w' v.ownBlock ∧ (v'.ownBlock = v.ownBlock ∨ ∃ g, v'.ownBlock = some g ∧ w.heap.size ≤ g)

theorem news4 (w : World) (a b c d : Value) (t : TypeId) : ∀ j u, [a, b, c, d][j]? = some u → (w.alloc (.cells #[a, b, c, d] t)).cell? ((⟨w.heap.size, 0, none⟩ : Addr).add j) = some u := by
  intro j u hj
  match j, hj with
  | 0, hj => simp at hj; subst hj; simp [Addr.add]
  | 1, hj => simp at hj; subst hj; simp [Addr.add]
  | 2, hj => simp at hj; subst hj; simp [Addr.add]
  | 3, hj => simp at hj; subst hj; simp [Addr.add]

theorem grown_alloc {w w' : World} {o : Obj} {r : Option Nat} (h : (w.alloc o).grownBy w' r) : w.grownBy w' r :=
  ((World.grownBy_alloc w o r)).trans h

set_option maxRecDepth 100000 in
theorem withText_any (v : Value) (L : List Pc) (t : ByteArray) (base : Nat) (w : World) (hown : w.ownsRow base 28 4 v L.length (pcs L)) (hb : base ≤ w.heap.size) (hL : L.length ≤ 1000000) :
    Calls Tryd.prog 39 #[v, .string t] w (RowGoes base (L ++ txtL t) w v) := by
  have hl : t.toList.length = t.size := by rw [Lib.toList_data]; rfl
  obtain ⟨i0, hi, hz0, hz1, hz2⟩ := info_parts Tryd.infoPiece
  by_cases h0 : t.size = 0
  · have d1 : t.toList = [] := List.eq_nil_of_length_eq_zero (by omega)
    have hT : Hid (txtL t = []) := Lib.hid (if_pos h0)
    have HO := Lib.hid hown
    clear hown
    clear hl h0
    go_enter Tryd.func39, Tryd.ntmps39
    go_wp2_with fail
    go_ret
    exact ⟨v, rfl, by rw [hT.out]; simpa using HO.out, ⟨rfl, rfl, rfl, Nat.le_refl _, fun _ _ _ => rfl⟩, .inl rfl⟩
  · have d1 : t.toList.isEmpty = false := by rw [List.isEmpty_eq_false_iff]; intro h; rw [h] at hl; exact h0 (by simpa using hl.symm)
    have hT : Hid (txtL t = [⟨1, t, 0, ByteArray.empty⟩]) := Lib.hid (if_neg h0)
    clear hl h0
    go_enter Tryd.func39, Tryd.ntmps39
    go_wp2_with (first | (at_builtin; refine wpList_append_own_at _ rfl _ _ 26 rfl base 28 i0 (.agg #[.int .i64 0, .string ByteArray.empty, .int .i64 0, .string ByteArray.empty]) 4 48 Tryd.underlying26 hi hz0 hz1 hz2 rfl (by decide) _ _ _ rfl (hown.alloc _) ⟨w.heap.size, 0, none⟩ 1 1 (pcs [⟨1, t, 0, ByteArray.empty⟩]) rfl rfl (news4 _ _ _ _ _ _) ?c2 ?c3 ?c4 ?c5 ?_))
    case c2 => exact pc_cells_one _
    case c3 => unfold maxLen; omega
    case c4 => omega
    case c5 => simp; omega
    intro v' w4 hown' hgrow _ hloc
    go_wp2_with fail
    go_ret
    refine ⟨v', rfl, ?_, grown_alloc hgrow, ?_⟩
    · rw [hT.out, pcs_app]; simpa using hown'
    · rcases hloc with h | h
      · exact .inl h
      · exact .inr ⟨_, h, by simp⟩

theorem pieceF_bd (s : ByteArray) (n : Nat) (g : Nat → Int) (i : Nat) (hi : i < n) (hk : (pieceF s n g i).1.kind ≠ 0) : i < (pieceF s n g i).2 ∧ (pieceF s n g i).2 ≤ n := by
  have h1 := tagF_bd n g (i + 1) (by omega)
  have h2 := digF_bd n g (tagF n g (i + 1)) h1.2
  rw [pieceF_eq] at hk ⊢
  split
  · simp; omega
  · rename_i h
    rw [if_neg h] at hk
    split
    · rename_i h3
      rw [if_pos h3] at hk
      exact absurd rfl hk
    · simp; omega

/-- the pieces from a place on, the text's beginning given -/
def cutF (s : ByteArray) (n : Nat) (g : Nat → Int) (f i : Nat) : List Pc :=
  if hi : i < n then
    if g i = 36 then
      if hk : (pieceF s n g i).1.kind = 0 then cutF s n g f (i + 1)
      else txtL (s.extract f i) ++ (pieceF s n g i).1 :: cutF s n g (pieceF s n g i).2 (pieceF s n g i).2
    else cutF s n g f (nextF n g i)
  else txtL (s.extract f s.size)
  termination_by n - i
  decreasing_by
  · omega
  · have := pieceF_bd s n g i hi hk; omega
  · have := nextF_bd n g i hi; omega

def cutS (s : ByteArray) : List Pc × Int :=
  if endS s 0 = s.size then (if tooF s.size (gAt s) 0 = true then ([], 6) else (cutF s s.size (gAt s) 0 0, 0)) else ([], 1)
end

section
open Go.RowKit
set_option linter.unusedVariables false

theorem own_below {w w' : World} {base : Nat} {e : TypeId} {size n : Nat} {v : Value} {xs : List Value} (h : w.ownsRow base e size v n xs) (hb : Below w.heap.size w w') : w'.ownsRow base e size v n xs := by
  obtain ⟨h1, h2⟩ := h
  refine ⟨h1, ?_⟩
  rcases h2 with h2 | ⟨g, cap, cur, hv, hg, hh, r⟩
  · exact .inl h2
  · exact .inr ⟨g, cap, cur, hv, hg, block_below hh hb (lt_of_block hh), r⟩

def CutTells (s : ByteArray) (w : World) (e : Ending) (w' : World) : Prop :=
  ∃ v, e = .returned (.tuple #[v, .int .i64 (cutS s).2]) ∧ w'.ownsRow w.heap.size 28 4 v (cutS s).1.length (pcs (cutS s).1) ∧ Below w.heap.size w w'

theorem cutF_end {s : ByteArray} {n : Nat} {g : Nat → Int} {f i : Nat} (h : ¬ i < n) : cutF s n g f i = txtL (s.extract f s.size) := by rw [cutF, dif_neg h]
theorem cutF_skip {s : ByteArray} {n : Nat} {g : Nat → Int} {f i : Nat} (h : i < n) (h2 : ¬ g i = 36) : cutF s n g f i = cutF s n g f (nextF n g i) := by rw [cutF, dif_pos h, if_neg h2]
theorem cutF_zero {s : ByteArray} {n : Nat} {g : Nat → Int} {f i : Nat} (h : i < n) (h2 : g i = 36) (h3 : (pieceF s n g i).1.kind = 0) : cutF s n g f i = cutF s n g f (i + 1) := by rw [cutF, dif_pos h, if_pos h2, dif_pos h3]
theorem cutF_piece {s : ByteArray} {n : Nat} {g : Nat → Int} {f i : Nat} (h : i < n) (h2 : g i = 36) (h3 : ¬ (pieceF s n g i).1.kind = 0) : cutF s n g f i = txtL (s.extract f i) ++ (pieceF s n g i).1 :: cutF s n g (pieceF s n g i).2 (pieceF s n g i).2 := by rw [cutF, dif_pos h, if_pos h2, dif_neg h3]

theorem txtL_len (s : ByteArray) : (txtL s).length ≤ 1 := by unfold txtL; split <;> simp

set_option maxRecDepth 100000 in
set_option maxHeartbeats 1000000 in
theorem cut_any (s : ByteArray) (w : World) (hm : MaxAt w) (hs : s.size ≤ 100000) :
    Calls Tryd.prog 21 #[.string s] w (CutTells s w) := by
  have hg := fun j h => gAt_get s j h
  have he := end_any s 0 w hm (by omega)
  have HS := Lib.hid (fun k W (hW : MaxAt W) hk => skip_any s k W hW hk (by omega))
  have HP := Lib.hid (fun k W hk => piece_any s k W hk (by omega))
  have HT := Lib.hid (fun W (hW : MaxAt W) => tooLong_any s W hW (by omega))
  have HC : Hid (cutS s = if endS s 0 = s.size then (if tooF s.size (gAt s) 0 = true then ([], 6) else (cutF s s.size (gAt s) 0 0, 0)) else ([], 1)) := Lib.hid rfl
  generalize endS s 0 = E at he HC
  have HE := Lib.hid he
  clear he
  go_enter Tryd.func21, Tryd.ntmps21
  go_wp2_with fail
  refine HE.out.mono ?_
  rintro e w1 ⟨rfl, hb1⟩
  by_cases hE : E = s.size
  · subst hE
    have hm1 := hm.below hb1
    go_wp2_with fail
    refine (HT.out _ hm1).mono ?_
    rintro e w2 ⟨rfl, rfl⟩
    cases htl : tooF s.size (gAt s) 0 with
    | true =>
      have HC2 : Hid (cutS s = ([], 6)) := Lib.hid (by rw [HC.out]; simp [htl])
      go_wp2_with fail
      go_ret2
      exact ⟨.slice none 0 0, by rw [HC2.out]; rfl, by rw [HC2.out]; exact World.ownsRow_nil _ _ _ _, hb1⟩
    | false =>
      have HC2 : Hid (cutS s = (cutF s s.size (gAt s) 0 0, 0)) := Lib.hid (by rw [HC.out]; simp [htl])
      obtain ⟨R, hR⟩ : ∃ R, R = cutF s s.size (gAt s) 0 0 := ⟨_, rfl⟩
      rw [← hR] at HC2
      have HR := Lib.hid hR
      clear HC htl hR
      generalize gAt s = g at *
      obtain ⟨i0, hi, hz0, hz1, hz2⟩ := info_parts Tryd.infoPiece
      go_wp2_with fail
      go_loopw [4, 5, 6] (fun x y z wr => ∃ (k f : Nat) (L : List Pc), f ≤ k ∧ k ≤ s.size ∧ L.length ≤ 2 * k ∧ y = .int .i64 f ∧ z = .int .i64 k ∧ Hid (R = L ++ cutF s s.size g f k) ∧ wr.ownsRow w.heap.size 28 4 x L.length (pcs L) ∧ Below w.heap.size w wr) (fun _ _ z _ => s.size + 1 - (intOf z).toNat)
      case atStart => exact ⟨0, 0, [], by omega, by omega, by simp, rfl, rfl, HR, World.ownsRow_nil _ _ _ _, hb1⟩
      case round =>
        obtain ⟨k, f, L, hfk, hk, hLl, rfl, rfl, HK, hown, hb⟩ := hrel
        rename_i u4
        by_cases hlt : k < s.size
        · by_cases h36 : g k = 36
          · have d0 : (g k != 36) = false := by simp [h36]
            have hpb := pieceF_bd s s.size g k hlt
            have hpc := HP.out k wr hlt
            have hc0 := cutF_zero (s := s) (f := f) hlt h36
            have hc1 := cutF_piece (s := s) (f := f) hlt h36
            generalize pieceF s s.size g k = pm at hpb hpc hc0 hc1
            obtain ⟨⟨kd, tx, nm, tg⟩, m⟩ := pm
            simp only [Pc.agg] at hpc hpb hc0 hc1
            have HPC := Lib.hid hpc
            have HPB := Lib.hid hpb
            have HC0 := Lib.hid hc0
            have HC1 := Lib.hid hc1
            clear hpc hpb hc0 hc1 h36
            have hs1 := hb.size
            by_cases hk0 : kd = 0
            · have HK2 : Hid (R = L ++ cutF s s.size g f (k + 1)) := Lib.hid (by rw [HK.out, HC0.out hk0])
              subst hk0
              go_wp2_with fail
              refine HPC.out.mono ?_
              rintro e w3 ⟨rfl, hb3⟩
              have hown3 := own_below hown hb3
              have hb4 := hb.trans (hb3.mono hs1)
              clear hb3 hown hb
              go_wp2_with fail
              go_roundw
              case rel => exact ⟨k + 1, f, L, by omega, by omega, by omega, rfl, by go_num, HK2, hown3.alloc _, hb4.alloc hb4.size _⟩
              case measure => simp [intOf]; omega
            · have d1 : (kd == 0) = false := by simpa using hk0
              have HK2 : Hid (R = (L ++ txtL (s.extract f k) ++ [⟨kd, tx, nm, tg⟩]) ++ cutF s s.size g m m) := Lib.hid (by rw [HK.out, HC1.out hk0]; simp)
              obtain ⟨hm1, hm2⟩ := HPB.out hk0
              clear hk0
              go_wp2_with fail
              refine HPC.out.mono ?_
              rintro e w3 ⟨rfl, hb3⟩
              have hown3 := own_below hown hb3
              have hb4 := hb.trans (hb3.mono hs1)
              clear hb3 hown hb
              go_wp2_with fail
              have hbx : (w3.alloc (.cells #[.int .i64 kd, .string tx, .int .i64 nm, .string tg] 28)).heap[w3.heap.size]? = some (.cells #[.int .i64 kd, .string tx, .int .i64 nm, .string tg] 28 (0, 0)) := heap_alloc_new _ _
              have hownB := hown3.alloc (.cells #[.int .i64 kd, .string tx, .int .i64 nm, .string tg] 28)
              have hbB := hb4.alloc hb4.size (.cells #[.int .i64 kd, .string tx, .int .i64 nm, .string tg] 28)
              have hne : u4.ownBlock ≠ some w3.heap.size := fun h => by have := (hown3.lt _ h).2; omega
              have hBl : w3.heap.size < (w3.alloc (.cells #[.int .i64 kd, .string tx, .int .i64 nm, .string tg] 28)).heap.size := by simp
              have hzl := txtL_len (s.extract f k)
              clear hown3 hb4
              generalize w3.alloc (.cells #[.int .i64 kd, .string tx, .int .i64 nm, .string tg] 28) = wB at hbx hownB hbB hBl ⊢
              generalize w3.heap.size = B at hbx hne hBl ⊢
              have c0 : wB.cell? ⟨B, 0, none⟩ = some (.int .i64 kd) := by rw [cell_of_row wB B 0 _ _ (0, 0) hbx]; rfl
              have c1 : wB.cell? ⟨B, 1, none⟩ = some (.string tx) := by rw [cell_of_row wB B 1 _ _ (0, 0) hbx]; rfl
              have c2 : wB.cell? ⟨B, 2, none⟩ = some (.int .i64 nm) := by rw [cell_of_row wB B 2 _ _ (0, 0) hbx]; rfl
              have c3 : wB.cell? ⟨B, 3, none⟩ = some (.string tg) := by rw [cell_of_row wB B 3 _ _ (0, 0) hbx]; rfl
              have hBs := hbB.size
              have hLL : (L ++ txtL (s.extract f k)).length ≤ 2 * k + 1 := by simp; omega
              go_region_law (first
                | (refine step_append_lies _ (by rfl) _ _ _ (by rfl) w.heap.size 28 i0 (.agg #[.int .i64 0, .string ByteArray.empty, .int .i64 0, .string ByteArray.empty]) 4 48 Tryd.underlying26 hi hz0 hz1 hz2 rfl (by omega) v1 (L ++ txtL (s.extract f k)).length (pcs (L ++ txtL (s.extract f k))) (by rfl) (hown4.alloc _)
                    ⟨w4.heap.size, 0, none⟩ 1 1 (pcs [⟨kd, tx, nm, tg⟩]) (by rfl) (by rfl) (news4 _ _ _ _ _ _) (pc_cells_one _)
                    (by omega) (by unfold maxLen; omega) (by omega) (by simp; have := hgr4.size; simp at this; omega) (w4.heap.size + 1) (by simp) ?_; intro gg cap w5 hown5 hgrow5 hat hlt5)
                | (go_simp; go_at_call 39; refine (withText_any u4 L (s.extract f k) w.heap.size _ (by first | exact hownB | exact hownB.alloc _) (by first | exact hBs | (simp; omega)) (by omega)).mono ?_; rintro e w4 ⟨v1, rfl, hown4, hgr4, hloc4⟩;
                    (try (have e0 := hgr4.cell c0 (fun h => hne h.symm); have e1 := hgr4.cell c1 (fun h => hne h.symm); have e2 := hgr4.cell c2 (fun h => hne h.symm); have e3 := hgr4.cell c3 (fun h => hne h.symm))))
                | (refine step_append_lies _ (by rfl) _ _ _ (by rfl) w.heap.size 28 i0 (.agg #[.int .i64 0, .string ByteArray.empty, .int .i64 0, .string ByteArray.empty]) 4 48 Tryd.underlying26 hi hz0 hz1 hz2 rfl (by omega) v1 (L ++ txtL (s.extract f k)).length (pcs (L ++ txtL (s.extract f k))) (by rfl) hown4
                                        ⟨wB.heap.size, 0, none⟩ 1 1 (pcs [⟨kd, tx, nm, tg⟩]) (by rfl) (by rfl) (fun j u hj => hgr4.cell (news4 _ _ _ _ _ _ j u hj) (fun h => by have h2 := (hownB.lt _ h.symm).2; rw [addr_add] at h2; exact Nat.lt_irrefl _ h2)) (pc_cells_one _)
                                        (by omega) (by unfold maxLen; omega) (by omega) (by have h2 := hgr4.size; exact Nat.le_trans (Nat.le_trans hBs (by simp)) h2) w4.heap.size rfl ?_; intro gg cap w5 hown5 hgrow5 hat hlt5))
              all_goals
                have hb4' : Below w.heap.size w w4 := by first | exact hbB.drew.grown hgr4 hBs (own_base hownB (Nat.le_refl _)) | exact (hbB.alloc hBs _).drew.grown hgr4 (Nat.le_trans hBs (by simp)) (own_base hownB (Nat.le_refl _))
                have hb5 : Below w.heap.size w w5 := by first | exact hb4'.grown hgrow5 hb4'.size (own_base hown4 (Nat.le_refl _)) | exact (hb4'.alloc hb4'.size _).grown hgrow5 (Nat.le_trans hb4'.size (by simp)) (own_base hown4 (Nat.le_refl _))
                have hown6 := Lib.hid hown5
                clear hgrow5 hgr4 hown5 hown4 hloc4 hat hownB hbB hb4'
                go_wp2_with fail
                go_roundw
                case rel => exact ⟨m, m, L ++ txtL (s.extract f k) ++ [⟨kd, tx, nm, tg⟩], Nat.le_refl _, hm2, by simp; omega, rfl, rfl, HK2, by rw [pcs_app]; simpa only [List.length_append, List.length_cons, List.length_nil, Nat.zero_add] using hown6.out, hb5⟩
                case measure => simp [intOf]; omega
          · have d0 : (g k != 36) = true := by simpa using h36
            have hnb := nextF_bd s.size g k hlt
            have hob := overF_bd s.size g k hlt
            have hnx : (nextF s.size g k : Int) = max (overF s.size g k) ((k : Int) + 1) := by unfold nextF; omega
            have hs0 := HS.out k wr (hm.below hb) hlt
            have HK2 : Hid (R = L ++ cutF s s.size g f (nextF s.size g k)) := Lib.hid (by rw [HK.out, cutF_skip hlt h36])
            clear HK h36
            generalize nextF s.size g k = m at hnb hnx HK2
            generalize overF s.size g k = o at hob hnx hs0
            have HSk := Lib.hid hs0
            have HX := Lib.hid hnx
            clear hs0 hnx
            go_wp2_with (first | (go_at_call 30; refine HSk.out.mono ?_; rintro e w' ⟨rfl, rfl⟩))
            go_roundw
            case rel => exact ⟨m, f, L, by omega, by omega, by omega, rfl, by rw [HX.out], HK2, hown, hb⟩
            case measure => simp [intOf]; omega
        · have HK2 : Hid (R = L ++ txtL (s.extract f s.size)) := Lib.hid (by rw [HK.out, cutF_end hlt])
          have hfs : f ≤ s.size := by omega
          clear HK
          go_wp2_with fail
          refine (withText_any _ L (s.extract f s.size) w.heap.size _ hown hb.size (by omega)).mono ?_
          rintro e w4 ⟨v1, rfl, hown4, hgr4, hloc4⟩
          have hb4 := hb.grown hgr4 hb.size (own_base hown (Nat.le_refl _))
          go_wp2_with fail
          go_ret2
          refine ⟨v1, by rw [HC2.out]; rfl, ?_, hb4⟩
          rw [HC2.out, HK2.out]
          exact hown4
  · have HC2 : Hid (cutS s = ([], 1)) := Lib.hid (by rw [HC.out, if_neg hE])
    have d1 : (E != (s.size : Int)) = true := by simpa using hE
    clear hE HC
    go_wp2_with fail
    go_ret2
    exact ⟨.slice none 0 0, by rw [HC2.out]; rfl, by rw [HC2.out]; exact World.ownsRow_nil _ _ _ _, hb1⟩
end

end Go.Proofs.YtmpdpgbcflogfaaDoor
