/- Words: what is told. -/
import Derived.Test.YtnoppoifepbchaaDoorWd
import Derived.Test.YtnoppoifepbchaaDoorLLex3
import Derived.Test.YtnoppoifepbchaaDoorLAtoi
import Derived.Test.YtnoppoifepbchaaDoorLLex8
namespace Go.Proofs.YtnoppoifepbchaaDoor

section
open Go.RowKit
set_option linter.unusedVariables false
theorem nameWd_bd (s : ByteArray) (i : Nat) (hi : i < s.size) (hn : i < nameF s.size (gAt s) i) (hk : (nameWd s i).1.kind ≠ 0) : i < (nameWd s i).2 ∧ (nameWd s i).2 ≤ s.size := by
 have hb := nameF_bd s.size (gAt s) i (by omega)
 unfold nameWd at hk ⊢
 split
 · exact ⟨hn, hb.2⟩
 · rename_i h; rw [if_neg h] at hk; exact absurd rfl hk
theorem digWd_bd (s : ByteArray) (i : Nat) (hi : i < s.size) (hd : digB (gAt s i) = true) (hk : (digWd s i).1.kind ≠ 0) : i < (digWd s i).2 ∧ (digWd s i).2 ≤ s.size := by
 have hb := digF_bd s.size (gAt s) i (by omega)
 have hdi : i < digF s.size (gAt s) i := by
  have e1 : digF s.size (gAt s) i = digF s.size (gAt s) (i + 1) := by rw [digF, if_pos ⟨hi, hd⟩]
  have := digF_bd s.size (gAt s) (i + 1) (by omega)
  omega
 unfold digWd at hk ⊢
 split
 · rename_i h; rw [if_pos h] at hk; exact absurd rfl hk
 · rename_i h; rw [if_neg h] at hk
   split
   · rename_i h2; rw [if_pos h2] at hk; exact absurd rfl hk
   · exact ⟨hdi, hb.2⟩
theorem pctWd_bd (s : ByteArray) (i : Nat) (hi : i < s.size) (hk : (pctWd s i).1.kind ≠ 0) : i < (pctWd s i).2 ∧ (pctWd s i).2 ≤ s.size := by
 unfold pctWd at hk ⊢
 split
 · rename_i h; rw [if_pos h] at hk; exact absurd rfl hk
 rename_i h1
 rw [if_neg h1] at hk
 split
 · simp only; omega
 rename_i h2
 rw [if_neg h2] at hk
 have hlb := letF_bd s.size (gAt s) (i + 1) (by omega)
 split
 · rename_i h3
   rw [if_pos h3] at hk
   split
   · rename_i h4; rw [if_pos h4] at hk; exact absurd rfl hk
   · rename_i h4
     have := findW_bd s.size (gAt s) 37 125 (i + 2)
     unfold behW at h4 ⊢
     simp only at h4 ⊢
     split <;> omega
 · rename_i h3
   rw [if_neg h3] at hk
   split
   · simp only; omega
   · rename_i h4; rw [if_neg h4] at hk; exact absurd rfl hk

theorem endS_bd (s : ByteArray) (i : Nat) (hi : i ≤ s.size) : endS s i = -1 ∨ ((i : Int) < endS s i ∧ endS s i ≤ s.size) := by
 unfold endS; split
 · have := endF_le s.size (gAt s) i 0 hi; simpa using this
 · left; rfl

theorem wordWd_bd (s : ByteArray) (i : Nat) (hi : i < s.size) (hk : (wordWd s i).1.kind ≠ 0) : i < (wordWd s i).2 ∧ (wordWd s i).2 ≤ s.size := by
 unfold wordWd at hk ⊢
 split
 · rename_i h; rw [if_pos h] at hk; exact nameWd_bd s i hi h hk
 rename_i h; rw [if_neg h] at hk; clear h
 split
 · rename_i h; rw [if_pos h] at hk; exact digWd_bd s i hi h hk
 rename_i h; rw [if_neg h] at hk; clear h
 split
 · rename_i h; rw [if_pos h] at hk
   split
   · rename_i h2
     have := takeS_end s i h2
     simp only; omega
   · rename_i h2; rw [if_neg h2] at hk; exact absurd rfl hk
 rename_i h; rw [if_neg h] at hk; clear h
 split
 · rename_i h; rw [if_pos h] at hk
   have := tagF_bd s.size (gAt s) i (by omega)
   split
   · simp only; omega
   · rename_i h2; rw [if_neg h2] at hk; exact absurd rfl hk
 rename_i h; rw [if_neg h] at hk; clear h
 split
 · simp only; omega
 rename_i h; rw [if_neg h] at hk; clear h
 split
 · rename_i h; rw [if_pos h] at hk
   have := endS_bd s i (by omega)
   split
   · simp only; omega
   · rename_i h2; rw [if_neg h2] at hk; exact absurd rfl hk
 rename_i h; rw [if_neg h] at hk; clear h
 split
 · rename_i h; rw [if_pos h] at hk; exact pctWd_bd s i hi hk
 · rename_i h; rw [if_neg h] at hk; exact absurd rfl hk

/-- the words from a place on, so many marks and these words ahead of it; the fault and its place -/
abbrev Tells := List Wd × Int × Int
def stopF (s : ByteArray) (i m : Nat) (L : List Wd) : Tells :=
 if (betF s.size (gAt s) i).2 = false then ([], 2, (betF s.size (gAt s) i).1)
 else if (betF s.size (gAt s) i).1 < s.size then
  (if (wordWd s (betF s.size (gAt s) i).1).1.kind = 0 then ([], 2, (betF s.size (gAt s) i).1)
   else (L ++ [⟨10, s.extract (wordWd s (betF s.size (gAt s) i).1).2 s.size, (wordWd s (betF s.size (gAt s) i).1).2⟩], 0, 0))
 else (L ++ [⟨10, ByteArray.empty, s.size⟩], 0, 0)
def goesB (s : ByteArray) (b m : Nat) : Prop := b < s.size ∧ (wordWd s b).1.kind ≠ 0 ∧ ¬ ((wordWd s b).1.kind = 7 ∧ m = 1)
instance (s : ByteArray) (b m : Nat) : Decidable (goesB s b m) := by unfold goesB; infer_instance
def wordsF (s : ByteArray) (i m : Nat) (L : List Wd) : Tells :=
 if h : i < s.size ∧ (betF s.size (gAt s) i).2 = true ∧ goesB s (betF s.size (gAt s) i).1 m then
  wordsF s (wordWd s (betF s.size (gAt s) i).1).2 (if (wordWd s (betF s.size (gAt s) i).1).1.kind = 7 then m + 1 else m) (L ++ [(wordWd s (betF s.size (gAt s) i).1).1])
 else stopF s i m L
 termination_by s.size - i
 decreasing_by
  have h1 := betF_bd s.size (gAt s) _ i rfl (by omega)
  have h2 := wordWd_bd s _ h.2.2.1 h.2.2.2.1
  omega
def wordsS (s : ByteArray) : Tells := if 4000 < s.size then ([], 4, 0) else wordsF s 0 0 []

theorem words_bad {s : ByteArray} {i m : Nat} {L : List Wd} {b : Nat} (h : betF s.size (gAt s) i = (b, false)) : wordsF s i m L = ([], 2, (b : Int)) := by
 rw [wordsF, dif_neg (fun hc => by rw [h] at hc; cases hc.2.1)]
 unfold stopF; rw [h]; rfl
theorem words_out {s : ByteArray} {i m : Nat} {L : List Wd} (h : betF s.size (gAt s) i = (s.size, true)) : wordsF s i m L = (L ++ [⟨10, ByteArray.empty, s.size⟩], 0, 0) := by
 rw [wordsF, dif_neg (fun hc => by rw [h] at hc; exact absurd hc.2.2.1 (Nat.lt_irrefl _))]
 unfold stopF; rw [h, if_neg (by simp), if_neg (Nat.lt_irrefl _)]
theorem words_none {s : ByteArray} {i m : Nat} {L : List Wd} {b : Nat} (h : betF s.size (gAt s) i = (b, true)) (hb : b < s.size) (hk : (wordWd s b).1.kind = 0) : wordsF s i m L = ([], 2, (b : Int)) := by
 rw [wordsF, dif_neg (fun hc => by rw [h] at hc; exact hc.2.2.2.1 hk)]
 unfold stopF; rw [h, if_neg (by simp), if_pos hb, if_pos hk]
theorem words_last {s : ByteArray} {i : Nat} {L : List Wd} {b : Nat} (h : betF s.size (gAt s) i = (b, true)) (hb : b < s.size) (hk : (wordWd s b).1.kind = 7) : wordsF s i 1 L = (L ++ [⟨10, s.extract (wordWd s b).2 s.size, (wordWd s b).2⟩], 0, 0) := by
 rw [wordsF, dif_neg (fun hc => by rw [h] at hc; exact hc.2.2.2.2 ⟨hk, rfl⟩)]
 unfold stopF; rw [h, if_neg (by simp), if_pos hb, if_neg (by rw [hk]; decide)]
theorem words_on {s : ByteArray} {i m : Nat} {L : List Wd} {b : Nat} (h : betF s.size (gAt s) i = (b, true)) (hi : i ≤ b) (hb : b < s.size) (hk : (wordWd s b).1.kind ≠ 0) (h7 : ¬ ((wordWd s b).1.kind = 7 ∧ m = 1)) :
  wordsF s i m L = wordsF s (wordWd s b).2 (if (wordWd s b).1.kind = 7 then m + 1 else m) (L ++ [(wordWd s b).1]) := by
 rw [wordsF, dif_pos (by rw [h]; exact ⟨by omega, rfl, hb, hk, h7⟩), h]

end
section
open Go.RowKit
set_option linter.unusedVariables false
set_option linter.unusedSimpArgs false
theorem Tryd.infoWord : (Tryd.prog.info? 76).map (fun i => (i.zero, i.size, i.bytes)) = some (some (.agg #[.int .i64 0, .string ByteArray.empty, .int .i64 0]), 3, 32) := by kernel_rfl

theorem news3 (w : World) (a b c : Value) (t : TypeId) : ∀ j u, [a, b, c][j]? = some u → (w.alloc (.cells #[a, b, c] t)).cell? ((⟨w.heap.size, 0, none⟩ : Addr).add j) = some u := by
 intro j u hj
 match j, hj with
 | 0, hj => simp at hj; subst hj; simp [Addr.add]
 | 1, hj => simp at hj; subst hj; simp [Addr.add]
 | 2, hj => simp at hj; subst hj; simp [Addr.add]
theorem news3_at (w : World) (B : Nat) (hB : w.heap.size = B) (a b c : Value) (t : TypeId) : ∀ j u, [a, b, c][j]? = some u → (w.alloc (.cells #[a, b, c] t)).cell? ((⟨B, 0, none⟩ : Addr).add j) = some u := by
 subst hB; exact news3 w a b c t
theorem wd_cells_one (p : Wd) : ∀ u ∈ wds [p], u.oneCell' = true := by
 intro u hu
 have e : wds [p] = [.int .i64 p.kind, .string p.text, .int .i64 p.place] := rfl
 rw [e] at hu
 simp at hu
 rcases hu with rfl | rfl | rfl <;> rfl
theorem fl_facts {w1 : World} {B : Nat} (hbx : w1.heap[B]? = some (.cells #[.int .i64 0, .int .i64 0, .string ⟨#[]⟩] 32 (0, 0))) :
  w1.cell? ⟨B, 0, none⟩ = some (.int .i64 0) ∧ w1.cell? ⟨B, 1, none⟩ = some (.int .i64 0) ∧ w1.cell? ⟨B, 2, none⟩ = some (.string ⟨#[]⟩) ∧ w1.frozen? ⟨B, 0, none⟩ = false ∧ w1.frozen? ⟨B, 1, none⟩ = false ∧ w1.frozen? ⟨B, 2, none⟩ = false :=
 ⟨by rw [cell_of_row w1 _ 0 _ _ (0, 0) hbx]; rfl, by rw [cell_of_row w1 _ 1 _ _ (0, 0) hbx]; rfl, by rw [cell_of_row w1 _ 2 _ _ (0, 0) hbx]; rfl, free_of_block hbx, free_of_block hbx, free_of_block hbx⟩

def LWordsTells (R : Tells) (w : World) (r : Ending) (w' : World) : Prop :=
 (∃ v, r = .returned (.tuple #[v, .agg #[.int .i64 R.2.1, .int .i64 R.2.2, .string ByteArray.empty]]) ∧ w'.ownsRow w.heap.size 76 3 v R.1.length (wds R.1)) ∧ Below w.heap.size w w'

set_option maxRecDepth 100000 in
theorem lwords_long (s : ByteArray) (w : World) (hs : s.size ≤ 1000000) (hlim : 4000 < s.size) :
  Calls Tryd.prog 25 #[.string s] w (LWordsTells ([], 4, 0) w) := by
 go_enter Tryd.func25, Tryd.ntmps25
 go_wp2_with fail
 exact bodyPost_ret (v := .tuple #[.slice none 0 0, .agg #[.int .i64 4, .int .i64 0, .string ByteArray.empty]]) (by simp [results, Tryd.results25, go_sem]; rfl) rfl ⟨⟨_, rfl, World.ownsRow_nil _ _ _ _⟩, (Below.refl _ _).alloc (Nat.le_refl _) _⟩

set_option maxRecDepth 100000 in
set_option maxHeartbeats 2000000 in
theorem lwords_in (s : ByteArray) (w : World) (R : Tells) (hs : s.size ≤ 4000) (hE : LexEnv w) (HR : Hid (R = wordsF s 0 0 [])) :
  Calls Tryd.prog 25 #[.string s] w (LWordsTells R w) := by
 obtain ⟨i0, hi, hz0, hz1, hz2⟩ := info_parts Tryd.infoWord
 have HB := Lib.hid (fun W (hW : MaxAt W) k hk => between_any s k W hW hk (by omega))
 have HW := Lib.hid (fun W (hW : LexEnv W) k hk => lword_any s k W hk (by omega) hW)
 have hbx0 := heap_alloc_new w (.cells #[.int .i64 0, .int .i64 0, .string ⟨#[]⟩] 32)
 have hb0 := (Below.refl w.heap.size w).alloc (Nat.le_refl _) (.cells #[.int .i64 0, .int .i64 0, .string ⟨#[]⟩] 32)
 have hE0 := hE.below hb0
 have hz : w.heap.size < (w.alloc (.cells #[.int .i64 0, .int .i64 0, .string ⟨#[]⟩] 32)).heap.size := by simp
 go_enter Tryd.func25, Tryd.ntmps25
 go_wp2_with fail
 generalize w.alloc (.cells #[.int .i64 0, .int .i64 0, .string ⟨#[]⟩] 32) = w0 at *
 go_loopw [4, 5, 6] (fun x y z wr => ∃ (k m : Nat) (L : List Wd), k ≤ s.size ∧ m ≤ 1 ∧ L.length ≤ k ∧ y = .int .i64 m ∧ z = .int .i64 k ∧ Hid (R = wordsF s k m L) ∧ wr.ownsRow w0.heap.size 76 3 x L.length (wds L) ∧ Below w0.heap.size w0 wr) (fun _ _ z _ => s.size + 1 - (intOf z).toNat)
 case atStart => exact ⟨0, 0, [], by omega, by omega, by simp, rfl, rfl, HR, World.ownsRow_nil _ _ _ _, Below.refl _ _⟩
 case round =>
  obtain ⟨k, m, L, hk, hm, hLl, rfl, rfl, HK, hown, hb⟩ := hrel
  rename_i u4
  have hEr := hE0.below hb
  have hbx := block_below hbx0 hb (by omega)
  have hbw := hb0.trans (hb.mono (Nat.le_of_lt hz))
  obtain ⟨c0, c1, c2, f0, f1, f2⟩ := fl_facts hbx
  have hbk := HB.out wr hEr.env.max k hk
  have hbb := betF_bd s.size (gAt s) _ k rfl hk
  rcases hbe : betF s.size (gAt s) k with ⟨b, ok⟩
  rw [hbe] at hbk hbb
  simp only at hbk hbb
  have HBk := Lib.hid hbk
  clear hbk
  cases ok with
  | false =>
    have HK2 : Hid (R = ([], 2, (b : Int))) := Lib.hid (HK.out.trans (words_bad hbe))
    go_wp2_with fail
    refine HBk.out.mono ?_
    rintro e w1 ⟨rfl, rfl⟩
    go_wp2_with fail
    exact bodyPost_ret (v := .tuple #[.slice none 0 0, .agg #[.int .i64 2, .int .i64 (b : Int), .string ByteArray.empty]]) (by simp [results, Tryd.results25, go_sem, c0, c1, c2, World.cell?_setCell_same, World.cell?_setCell_other]; rfl) rfl ⟨⟨_, by rw [HK2.out], by rw [HK2.out]; exact World.ownsRow_nil _ _ _ _⟩, wd_below hbw (Nat.le_refl _) _ _ _⟩
  | true =>
    by_cases hbs : b < s.size
    · have hwk := HW.out wr hEr b hbs
      have hwb := wordWd_bd s b hbs
      have hk0 := words_none (m := m) (L := L) hbe hbs
      have hk1 := words_on (m := m) (L := L) hbe hbb.1 hbs
      have hk2 := words_last (L := L) hbe hbs
      generalize wordWd s b = R0 at hwk hwb hk0 hk1 hk2
      obtain ⟨⟨kd, tx, pl⟩, z⟩ := R0
      unfold WdTells Wd.agg at hwk
      simp only at hwk hwb hk0 hk1 hk2
      have HWk := Lib.hid hwk
      have dbs : ((b : Int) == (s.size : Int)) = false := by simp; omega
      clear hwk
      by_cases h0 : kd = 0
      · have HK2 : Hid (R = ([], 2, (b : Int))) := Lib.hid (HK.out.trans (hk0 h0))
        subst h0
        clear hk0 hk1 hk2 hwb HK
        go_wp2_with (first
         | (go_at_call 54; refine HBk.out.mono ?_; rintro e w1 ⟨rfl, rfl⟩))
        refine HWk.out.mono ?_
        rintro e w1 ⟨rfl, hb1⟩
        have hbx1 := block_below hbx hb1 (lt_of_block hbx)
        have hbxA := block_below hbx1 ((Below.refl w1.heap.size w1).alloc (Nat.le_refl _) (.cells #[.int .i64 0, .string tx, .int .i64 pl] 76)) (lt_of_block hbx1)
        have hbw1 := (hbw.trans (hb1.mono hbw.size))
        have hbwA := hbw1.alloc hbw1.size (.cells #[.int .i64 0, .string tx, .int .i64 pl] 76)
        clear c0 c1 c2 f0 f1 f2
        obtain ⟨c0, c1, c2, f0, f1, f2⟩ := fl_facts hbxA
        go_wp2_with fail
        exact bodyPost_ret (v := .tuple #[.slice none 0 0, .agg #[.int .i64 2, .int .i64 (b : Int), .string ByteArray.empty]]) (by simp [results, Tryd.results25, go_sem, c0, c1, c2, World.cell?_setCell_same, World.cell?_setCell_other]; rfl) rfl ⟨⟨_, by rw [HK2.out], by rw [HK2.out]; exact World.ownsRow_nil _ _ _ _⟩, wd_below hbwA (Nat.le_refl _) _ _ _⟩
      have d0 : (kd == 0) = false := by simpa using h0
      obtain ⟨hz1', hz2'⟩ := hwb h0
      replace hk1 := hk1 h0
      clear hk0 hwb h0
      by_cases h7 : kd = 7
      · subst h7
        have hm01 : m = 0 ∨ m = 1 := by omega
        rcases hm01 with rfl | rfl
        · have HK2 : Hid (R = wordsF s z 1 (L ++ [⟨7, tx, pl⟩])) := Lib.hid (HK.out.trans (by have := hk1 (by simp); simpa using this))
          clear hk1 hk2 HK
          go_wp2_with (first
           | (go_at_call 54; refine HBk.out.mono ?_; rintro e w1 ⟨rfl, rfl⟩))
          refine HWk.out.mono ?_
          rintro e w1 ⟨rfl, hb1⟩
          have hbA := (hb.trans (hb1.mono hb.size)).alloc (Nat.le_trans hb.size hb1.size) (.cells #[.int .i64 7, .string tx, .int .i64 pl] 76)
          have hownA := (own_below hown hb1).alloc (.cells #[.int .i64 7, .string tx, .int .i64 pl] 76)
          go_wp2_with (first
           | (at_builtin; refine wpList_append_own_at _ rfl _ _ 69 rfl w0.heap.size 76 i0 (.agg #[.int .i64 0, .string ByteArray.empty, .int .i64 0]) 3 32 Tryd.underlying69 hi hz0 hz1 hz2 rfl (by decide) _ _ _ rfl (hownA.alloc _) ⟨w1.heap.size + 1, 0, none⟩ 1 1 (wds [⟨7, tx, pl⟩]) rfl rfl (news3_at _ (w1.heap.size + 1) (by simp) _ _ _ _) ?c2 ?c3 ?c4 ?c5 ?_))
          case c2 => exact wd_cells_one _
          case c3 => unfold maxLen; omega
          case c4 => omega
          case c5 => exact Nat.le_trans hbA.size (by simp)
          intro v' w4 hown' hgrow _ hloc
          have hb4 := (hbA.alloc hbA.size _).grown hgrow (Nat.le_trans hbA.size (by simp)) (own_base hownA (Nat.le_refl _))
          clear c0 c1 c2 f0 f1 f2
          go_wp2_with fail
          go_roundw
          case rel => exact ⟨z, 1, L ++ [⟨7, tx, pl⟩], by omega, by omega, by simp; omega, by go_num, rfl, HK2, by rw [wds_app]; simpa only [List.length_append, List.length_cons, List.length_nil, Nat.zero_add] using hown', hb4⟩
          case measure => simp [intOf]; omega
        · have HK2 : Hid (R = (L ++ [⟨10, s.extract z s.size, z⟩], 0, 0)) := Lib.hid (HK.out.trans (hk2 rfl))
          clear hk1 hk2 HK
          go_wp2_with (first
           | (go_at_call 54; refine HBk.out.mono ?_; rintro e w1 ⟨rfl, rfl⟩))
          refine HWk.out.mono ?_
          rintro e w1 ⟨rfl, hb1⟩
          have hbA := (hb.trans (hb1.mono hb.size)).alloc (Nat.le_trans hb.size hb1.size) (.cells #[.int .i64 7, .string tx, .int .i64 pl] 76)
          have hownA := (own_below hown hb1).alloc (.cells #[.int .i64 7, .string tx, .int .i64 pl] 76)
          go_wp2_with (first
           | (at_builtin; refine wpList_append_own_at _ rfl _ _ 69 rfl w0.heap.size 76 i0 (.agg #[.int .i64 0, .string ByteArray.empty, .int .i64 0]) 3 32 Tryd.underlying69 hi hz0 hz1 hz2 rfl (by decide) _ _ _ rfl (hownA.alloc _) ⟨w1.heap.size + 1, 0, none⟩ 1 1 (wds [⟨10, s.extract z s.size, z⟩]) rfl rfl (news3_at _ (w1.heap.size + 1) (by simp) _ _ _ _) ?c2 ?c3 ?c4 ?c5 ?_))
          case c2 => exact wd_cells_one _
          case c3 => unfold maxLen; omega
          case c4 => omega
          case c5 => exact Nat.le_trans hbA.size (by simp)
          intro v' w4 hown' hgrow _ hloc
          have hb4 := (hbA.alloc hbA.size _).grown hgrow (Nat.le_trans hbA.size (by simp)) (own_base hownA (Nat.le_refl _))
          clear c0 c1 c2 f0 f1 f2
          have hbx4 := block_below hbx0 hb4 hz
          have hbw4 := hb0.trans (hb4.mono (Nat.le_of_lt hz))
          obtain ⟨c0, c1, c2, f0, f1, f2⟩ := fl_facts hbx4
          go_wp2_with fail
          exact bodyPost_ret (v := .tuple #[v', .agg #[.int .i64 0, .int .i64 0, .string ByteArray.empty]]) (by simp [results, Tryd.results25, go_sem, c0, c1, c2, World.cell?_setCell_same, World.cell?_setCell_other]; rfl) rfl ⟨⟨v', by rw [HK2.out], by
           rw [HK2.out]
           have h9 := hown'
           rw [← wds_app] at h9
           simp only [List.length_append, List.length_cons, List.length_nil, Nat.zero_add]
           exact own_weaken (ownsRow_setCell_below (ownsRow_setCell_below (ownsRow_setCell_below h9 hz _) hz _) hz _) (Nat.le_of_lt hz)⟩, wd_below hbw4 (Nat.le_refl _) _ _ _⟩
      · have d7 : (kd == 7) = false := by simpa using h7
        have dm : ((m : Int) == 2) = false := by simp; omega
        have HK2 : Hid (R = wordsF s z m (L ++ [⟨kd, tx, pl⟩])) := Lib.hid (HK.out.trans (by have := hk1 (fun hc => h7 hc.1); rw [if_neg h7] at this; exact this))
        clear hk1 hk2 HK h7
        go_wp2_with (first
         | (go_at_call 54; refine HBk.out.mono ?_; rintro e w1 ⟨rfl, rfl⟩))
        refine HWk.out.mono ?_
        rintro e w1 ⟨rfl, hb1⟩
        have hbA := (hb.trans (hb1.mono hb.size)).alloc (Nat.le_trans hb.size hb1.size) (.cells #[.int .i64 kd, .string tx, .int .i64 pl] 76)
        have hownA := (own_below hown hb1).alloc (.cells #[.int .i64 kd, .string tx, .int .i64 pl] 76)
        go_wp2_with (first
         | (at_builtin; refine wpList_append_own_at _ rfl _ _ 69 rfl w0.heap.size 76 i0 (.agg #[.int .i64 0, .string ByteArray.empty, .int .i64 0]) 3 32 Tryd.underlying69 hi hz0 hz1 hz2 rfl (by decide) _ _ _ rfl (hownA.alloc _) ⟨w1.heap.size + 1, 0, none⟩ 1 1 (wds [⟨kd, tx, pl⟩]) rfl rfl (news3_at _ (w1.heap.size + 1) (by simp) _ _ _ _) ?c2 ?c3 ?c4 ?c5 ?_))
        case c2 => exact wd_cells_one _
        case c3 => unfold maxLen; omega
        case c4 => omega
        case c5 => exact Nat.le_trans hbA.size (by simp)
        intro v' w4 hown' hgrow _ hloc
        have hb4 := (hbA.alloc hbA.size _).grown hgrow (Nat.le_trans hbA.size (by simp)) (own_base hownA (Nat.le_refl _))
        clear c0 c1 c2 f0 f1 f2
        go_wp2_with fail
        go_roundw
        case rel => exact ⟨z, m, L ++ [⟨kd, tx, pl⟩], by omega, by omega, by simp; omega, rfl, rfl, HK2, by rw [wds_app]; simpa only [List.length_append, List.length_cons, List.length_nil, Nat.zero_add] using hown', hb4⟩
        case measure => simp [intOf]; omega
    · obtain rfl : b = s.size := by omega
      have HK2 : Hid (R = (L ++ [⟨10, ByteArray.empty, s.size⟩], 0, 0)) := Lib.hid (HK.out.trans (words_out hbe))
      go_wp2_with (first
       | (go_at_call 54; refine HBk.out.mono ?_; rintro e w1 ⟨rfl, rfl⟩)
       | (at_builtin; refine wpList_append_own_at _ rfl _ _ 69 rfl w0.heap.size 76 i0 (.agg #[.int .i64 0, .string ByteArray.empty, .int .i64 0]) 3 32 Tryd.underlying69 hi hz0 hz1 hz2 rfl (by decide) _ _ _ rfl (hown.alloc _) ⟨wr.heap.size, 0, none⟩ 1 1 (wds [⟨10, ByteArray.empty, s.size⟩]) rfl rfl (news3 _ _ _ _ _) ?c2 ?c3 ?c4 ?c5 ?_))
      case c2 => exact wd_cells_one _
      case c3 => unfold maxLen; omega
      case c4 => omega
      case c5 => have := hb.size; simp; omega
      intro v' w4 hown' hgrow _ hloc
      have hb4 := (hb.alloc hb.size _).grown hgrow (Nat.le_trans hb.size (by simp)) (own_base hown (Nat.le_refl _))
      have hbx4 := block_below hbx0 hb4 hz
      have hbw4 := hb0.trans (hb4.mono (Nat.le_of_lt hz))
      clear c0 c1 c2 f0 f1 f2
      obtain ⟨c0, c1, c2, f0, f1, f2⟩ := fl_facts hbx4
      go_wp2_with fail
      exact bodyPost_ret (v := .tuple #[v', .agg #[.int .i64 0, .int .i64 0, .string ByteArray.empty]]) (by simp [results, Tryd.results25, go_sem, c0, c1, c2, World.cell?_setCell_same, World.cell?_setCell_other]; rfl) rfl ⟨⟨v', by rw [HK2.out], by
       rw [HK2.out]
       have h9 := hown'
       rw [← wds_app] at h9
       simp only [List.length_append, List.length_cons, List.length_nil, Nat.zero_add]
       exact own_weaken (ownsRow_setCell_below (ownsRow_setCell_below (ownsRow_setCell_below h9 hz _) hz _) hz _) (Nat.le_of_lt hz)⟩, wd_below hbw4 (Nat.le_refl _) _ _ _⟩
end
section
open Go.RowKit
set_option linter.unusedVariables false
set_option linter.unusedSimpArgs false
end
section
open Go.RowKit
set_option linter.unusedVariables false
set_option linter.unusedSimpArgs false
theorem CellsV.of_owns3 {w : World} {base : Nat} {e : TypeId} {v : Value} {n : Nat} {xs : List Value} (h : w.ownsRow base e 3 v n xs) : CellsV w v n xs := by
 obtain ⟨h1, h2⟩ := h
 rcases h2 with ⟨rfl, h0⟩ | ⟨g, cap, cur, rfl, hg, hh, hn, hc, hs, ht⟩
 · refine ⟨none, 0, by rw [h0], by omega, by omega, fun _ => rfl, fun i hi => ?_⟩
   omega
 · refine ⟨_, cap, rfl, hn, by unfold maxLen at hc; omega, (fun h => by cases h), fun i hi => ?_⟩
   refine ⟨g, 0, rfl, ?_⟩
   rw [cell_of_row w g _ cur e (0, 0) hh]
   have hcs : i < cur.size := by omega
   rw [List.getD_eq_getElem?_getD, ← ht, List.getElem?_take, if_pos (by omega)]
   simp [hcs]
theorem WdsV.of_owns {w : World} {base : Nat} {v : Value} {L : List Wd} (h : w.ownsRow base 76 3 v L.length (wds L)) : WdsV w v L := CellsV.of_owns3 h

theorem stopF_len {s : ByteArray} {i m : Nat} {L : List Wd} : (stopF s i m L).1.length ≤ L.length + 1 := by
 unfold stopF
 split
 · simp
 · split
   · split <;> simp
   · simp
theorem wordsF_len (s : ByteArray) : ∀ n i m L, s.size - i = n → (wordsF s i m L).1.length ≤ L.length + (s.size - i) + 1 := by
 intro n
 induction n using Nat.strongRecOn with
 | ind n ih =>
   intro i m L hn
   rw [wordsF]
   split
   · rename_i h
     have h1 := betF_bd s.size (gAt s) _ i rfl (by omega)
     have h2 := wordWd_bd s _ h.2.2.1 h.2.2.2.1
     have := ih (s.size - (wordWd s (betF s.size (gAt s) i).1).2) (by omega) (wordWd s (betF s.size (gAt s) i).1).2 (if (wordWd s (betF s.size (gAt s) i).1).1.kind = 7 then m + 1 else m) (L ++ [(wordWd s (betF s.size (gAt s) i).1).1]) rfl
     refine Nat.le_trans this ?_
     simp; omega
   · have := @stopF_len s i m L; omega
theorem wordsS_len (s : ByteArray) : (wordsS s).1.length ≤ 100000 := by
 unfold wordsS; split
 · simp
 · have := wordsF_len s _ 0 0 [] rfl; simp at this; omega
end
section
open Go.RowKit
set_option linter.unusedVariables false
set_option linter.unusedSimpArgs false
end
section
open Go.RowKit
set_option linter.unusedVariables false
set_option linter.unusedSimpArgs false
end
end Go.Proofs.YtnoppoifepbchaaDoor
