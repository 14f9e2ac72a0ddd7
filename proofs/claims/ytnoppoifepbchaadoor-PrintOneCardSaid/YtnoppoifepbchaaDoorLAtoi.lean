/- What Atoi tells of digits. -/
import Derived.Test.YtnoppoifepbchaaDoorWd
import Derived.Test.YtnoppoifepbchaaDoorLLex3
namespace Go.Proofs.YtnoppoifepbchaaDoor
section
open Go.RowKit
set_option linter.unusedVariables false
def horA (acc : Nat) (l : List UInt8) : Nat := l.foldl (fun a c => a * 10 + (c.toNat - 48)) acc
def Digs (l : List UInt8) : Prop := ∀ c ∈ l, 48 ≤ c.toNat ∧ c.toNat ≤ 57
theorem horA_cons (acc : Nat) (c : UInt8) (r : List UInt8) : horA acc (c :: r) = horA (acc * 10 + (c.toNat - 48)) r := by unfold horA; rw [List.foldl_cons]
theorem horA_ge (l : List UInt8) : ∀ acc, acc * 10 ^ l.length ≤ horA acc l := by
 induction l with
 | nil => intro acc; show acc * 1 ≤ acc; omega
 | cons c r ih =>
   intro acc
   rw [horA_cons, List.length_cons, Nat.pow_succ]
   have h := ih (acc * 10 + (c.toNat - 48))
   generalize 10 ^ r.length = p at *
   have h2 : acc * (p * 10) = acc * 10 * p := by rw [Nat.mul_comm p 10, Nat.mul_assoc]
   have h3 : acc * 10 * p ≤ (acc * 10 + (c.toNat - 48)) * p := Nat.mul_le_mul_right _ (Nat.le_add_right _ _)
   rw [h2]; exact Nat.le_trans h3 h
theorem horA_mono (l : List UInt8) (acc : Nat) : acc ≤ horA acc l := by
 have h := horA_ge l acc
 have h2 : acc * 1 ≤ acc * 10 ^ l.length := Nat.mul_le_mul_left _ (Nat.pos_of_ne_zero (by simp))
 rw [Nat.mul_one] at h2
 exact Nat.le_trans h2 h

theorem parse_digs : ∀ (l : List UInt8) (acc : Nat), Digs l → (Lib.parseUint10 acc l = .ok (horA acc l) ∨ Lib.parseUint10 acc l = .range) ∧ (horA acc l < 1844674407370955162 → Lib.parseUint10 acc l = .ok (horA acc l))
 | [], acc, _ => ⟨.inl rfl, fun _ => rfl⟩
 | c :: r, acc, hd => by
   have hc := hd c (List.mem_cons_self ..)
   have h := parse_digs r (acc * 10 + (c.toNat - 48)) (fun x hx => hd x (List.mem_cons_of_mem _ hx))
   rw [horA_cons]
   have hm := horA_mono r (acc * 10 + (c.toNat - 48))
   unfold Lib.parseUint10
   rw [if_pos hc]
   by_cases h1 : 1844674407370955162 ≤ acc
   · rw [if_pos h1]; exact ⟨.inr rfl, fun hx => by omega⟩
   · rw [if_neg h1]
     by_cases h2 : 18446744073709551616 ≤ acc * 10 + (c.toNat - 48)
     · rw [if_pos h2]; exact ⟨.inr rfl, fun hx => by omega⟩
     · rw [if_neg h2]; exact h

theorem atoi_digs (l : List UInt8) (hd : Digs l) (hne : l ≠ []) : (Lib.atoiAll l = .ok (horA 0 l : Nat) ∨ Lib.atoiAll l = .range) ∧ (horA 0 l < 1000000 → Lib.atoiAll l = .ok (horA 0 l : Nat)) := by
 obtain ⟨h1, h2⟩ := parse_digs l 0 hd
 cases l with
 | nil => exact absurd rfl hne
 | cons c r =>
   have hc := hd c (List.mem_cons_self ..)
   have hm : Lib.parseMag (if c.toNat = 43 ∨ c.toNat = 45 then r else c :: r) = Lib.parseUint10 0 (c :: r) := by
    rw [if_neg (by omega)]; unfold Lib.parseMag; rw [if_neg (by simp)]
   have hn : ¬ c.toNat = 45 := by omega
   unfold Lib.atoiAll
   simp only [hm]
   constructor
   · rcases h1 with h1 | h1
     · rw [h1]
       simp only [hn, not_false_eq_true, true_and, false_and, if_false]
       split
       · exact .inr rfl
       · exact .inl rfl
     · rw [h1]; exact .inr rfl
   · intro hx
     rw [h2 (by omega)]
     simp only [hn, not_false_eq_true, true_and, false_and, if_false]
     rw [if_neg (by omega)]
end
section
open Go.RowKit
set_option linter.unusedVariables false
/-- the library's own error holds some value -/
structure LexEnv (w : World) : Prop where
 env : Env w
 err : ∃ ev, w.cell? ⟨3, 0, none⟩ = some ev ∧ (ev = .nilIface ∨ ∃ te pe, ev = .iface te pe)
theorem LexEnv.below {w w' : World} (h : LexEnv w) (hb : Below w.heap.size w w') : LexEnv w' := by
 obtain ⟨ev, h1, h2⟩ := h.err
 exact ⟨h.env.below hb, ev, (hb.cell (World.block_lt_of_cell? _ _ h1)).trans h1, h2⟩

def digL (s : ByteArray) (i : Nat) : List UInt8 := (s.extract i (digF s.size (gAt s) i)).data.toList
def digWd (s : ByteArray) (i : Nat) : Wd × Nat :=
 if digF s.size (gAt s) i < s.size ∧ begB (gAt s (digF s.size (gAt s) i)) = true then (noWd, i)
 else if gAt s i = 48 ∨ 50000 < horA 0 (digL s i) then (noWd, i)
 else (⟨3, s.extract i (digF s.size (gAt s) i), i⟩, digF s.size (gAt s) i)

def AtoiTells (v : Int) (bad : Bool) (w : World) (r : Ending) (w' : World) : Prop :=
 (∃ x : Value, r = .returned (.tuple #[.int .i64 v, x]) ∧ (bad = false → x = .nilIface) ∧ (bad = true → ∃ N, x = .iface 154 (.pointer (some ⟨N, 0, none⟩)))) ∧ Below w.heap.size w w'

theorem digL_digs (s : ByteArray) (i : Nat) (hi : i ≤ s.size) : Digs (digL s i) := by
 have hb := digF_bd s.size (gAt s) i hi
 have ha := digF_all s.size (gAt s) i
 have hl := extract_len s (a := i) hb.2
 intro c hc
 obtain ⟨m, hm, rfl⟩ := List.getElem_of_mem hc
 unfold digL at hm
 rw [hl] at hm
 have h1 := extract_getD s (x := i) (m := m) hb.2 (by omega)
 have h2 := digB_flat (ha (i + m) (by omega) (by omega))
 unfold digL
 rw [List.getD_eq_getElem?_getD, List.getElem?_eq_getElem (by rw [hl]; omega)] at h1
 simp only [Option.getD_some] at h1
 omega

theorem latoi_any (s : ByteArray) (i : Nat) (w : World) (hi : i ≤ s.size) (hd : i < digF s.size (gAt s) i) (hs : s.size ≤ 1000000) (hE : LexEnv w) :
  ∃ (v : Int) (bad : Bool), (bad = false → v = (horA 0 (digL s i) : Nat)) ∧ (bad = true → 1000000 ≤ horA 0 (digL s i)) ∧
   Calls Tryd.prog 111 #[.string (s.extract i (digF s.size (gAt s) i))] w (AtoiTells v bad w) := by
 have hb := digF_bd s.size (gAt s) i hi
 have hl := extract_len s (a := i) hb.2
 have hz : (s.extract i (digF s.size (gAt s) i)).size ≤ 1000000 := by rw [ByteArray.size_extract]; omega
 have hD := digL_digs s i hi
 have hne : digL s i ≠ [] := fun h => by
  have := congrArg List.length h
  unfold digL at this
  rw [hl] at this
  simp at this; omega
 obtain ⟨h1, h2⟩ := atoi_digs (digL s i) hD hne
 rcases h1 with h1 | h1
 · refine ⟨_, false, fun _ => rfl, fun h => (by cases h), ?_⟩
   refine (Tryd.strconv_Atoi_ok _ (by omega) _ h1 w).mono ?_
   rintro e w' ⟨rfl, hw⟩
   refine ⟨⟨_, rfl, fun _ => rfl, fun h => by cases h⟩, ?_⟩
   rcases hw with rfl | ⟨t, rfl⟩
   · exact Below.refl _ _
   · exact Lib.bytesWorld_below _ _ _
 · refine ⟨Lib.atoiSat (digL s i), true, fun h => (by cases h), fun _ => ?_, ?_⟩
   · by_cases hx : horA 0 (digL s i) < 1000000
     · rw [h2 hx] at h1; cases h1
     · omega
   · obtain ⟨ev, he1, he2⟩ := hE.err
     refine (Tryd.strconv_Atoi_range _ (by omega) h1 ev w he1 he2).mono ?_
     rintro e w' ⟨N, rfl, _, _, hbl⟩
     exact ⟨⟨_, rfl, fun h => (by cases h), fun _ => ⟨N, rfl⟩⟩, hbl⟩

set_option maxRecDepth 100000 in
set_option maxHeartbeats 2000000 in
theorem ldigits_any (s : ByteArray) (i : Nat) (w : World) (hi : i < s.size) (hd : digB (gAt s i) = true) (hs : s.size ≤ 1000000) (hE : LexEnv w) :
  Calls Tryd.prog 86 #[.string s, .int .i64 i] w fun r w' => WdTells r (digWd s i) ∧ Below w.heap.size w w' := by
 have hg := fun j h => gAt_get s j h
 have hb := digF_bd s.size (gAt s) i (by omega)
 have hdi : i < digF s.size (gAt s) i := by
  have e1 : digF s.size (gAt s) i = digF s.size (gAt s) (i + 1) := by rw [digF, if_pos ⟨hi, hd⟩]
  have := digF_bd s.size (gAt s) (i + 1) (by omega)
  omega
 have HD := Lib.hid (fun W => digits_any s i W (by omega) hs)
 have HA := Lib.hid (fun W hW => latoi_any s i W (by omega) hdi hs hW)
 have hR : digWd s i = if digF s.size (gAt s) i < s.size ∧ begB (gAt s (digF s.size (gAt s) i)) = true then (noWd, i)
  else if gAt s i = 48 ∨ 50000 < horA 0 (digL s i) then (noWd, i)
  else (⟨3, s.extract i (digF s.size (gAt s) i), i⟩, digF s.size (gAt s) i) := rfl
 have HW := Lib.hid (fun W => whole_any 3 s i (digF s.size (gAt s) i) W hb.1 hb.2 hs)
 have HL := Lib.hid (fun W => letter_any (gAt s (digF s.size (gAt s) i)) W)
 generalize digWd s i = R at hR ⊢
 generalize digF s.size (gAt s) i = d at *
 generalize horA 0 (digL s i) = V at *
 generalize gAt s = g at *
 have hEx : LexEnv (w.alloc (.cells #[.int .i64 0, .string ⟨#[]⟩, .int .i64 0] 76)) := hE.below ((Below.refl _ _).alloc (Nat.le_refl _) _)
 by_cases hc : d < s.size ∧ begB (g d) = true
 · rw [if_pos hc] at hR
   subst hR
   obtain ⟨hc1, hc2⟩ := hc
   cases hlB : letB (g d) with
   | true =>
     rw [hlB] at HL
     go_enter Tryd.func86, Tryd.ntmps86
     go_wp2_with (first
      | (go_at_call 109; refine (HD.out _).mono ?_; rintro e w1 ⟨rfl, rfl⟩)
      | (go_at_call 110; refine (HL.out _).mono ?_; rintro e w1 ⟨rfl, rfl⟩))
     exact bodyPost_ret (v := .tuple #[.agg #[.int .i64 0, .string ByteArray.empty, .int .i64 0], .int .i64 (i : Int)]) (by simp [results, Tryd.results86, go_sem]; rfl) rfl ⟨rfl, (Below.refl _ _).alloc (Nat.le_refl _) _⟩
   | false =>
     rw [hlB] at HL
     have h95 : g d = 95 := by
      unfold begB at hc2; unfold letB at hlB
      simp at hc2 hlB
      omega
     rw [h95] at HL
     go_enter Tryd.func86, Tryd.ntmps86
     go_wp2_with (first
      | (go_at_call 109; refine (HD.out _).mono ?_; rintro e w1 ⟨rfl, rfl⟩)
      | (go_at_call 110; refine (HL.out _).mono ?_; rintro e w1 ⟨rfl, rfl⟩))
     exact bodyPost_ret (v := .tuple #[.agg #[.int .i64 0, .string ByteArray.empty, .int .i64 0], .int .i64 (i : Int)]) (by simp [results, Tryd.results86, go_sem]; rfl) rfl ⟨rfl, (Below.refl _ _).alloc (Nat.le_refl _) _⟩
 · rw [if_neg hc] at hR
   by_cases hds : d < s.size
   · have hnb : begB (g d) = false := by
      cases h : begB (g d) with
      | false => rfl
      | true => exact absurd ⟨hds, h⟩ hc
     have hlB : letB (g d) = false := by
      unfold begB at hnb; unfold letB
      simp at hnb ⊢
      omega
     have h95 : ¬ g d = 95 := by
      unfold begB at hnb
      simp at hnb
      omega
     rw [hlB] at HL
     clear hc hnb hlB
     obtain ⟨v, bad, hv1, hv2, hA⟩ := HA.out _ hEx
     have HA2 := Lib.hid hA
     clear hA HA
     go_enter Tryd.func86, Tryd.ntmps86
     go_wp2_with (first
      | (go_at_call 109; refine (HD.out _).mono ?_; rintro e w1 ⟨rfl, rfl⟩)
      | (go_at_call 110; refine (HL.out _).mono ?_; rintro e w1 ⟨rfl, rfl⟩))
     refine HA2.out.mono ?_
     rintro e w1 ⟨⟨x, rfl, hx1, hx2⟩, hb1⟩
     have hbx := block_below (heap_alloc_new w _) hb1 (by simp)
     have hb2 := ((Below.refl w.heap.size w).alloc (Nat.le_refl _) _).trans (hb1.mono (by simp))
     obtain ⟨c0, c1, c2, f0, f1, f2⟩ := wd_facts hbx
     cases bad with
     | true =>
       obtain ⟨N, rfl⟩ := hx2 rfl
       rw [if_pos (.inr (by have := hv2 rfl; omega))] at hR
       subst hR
       go_wp2_with fail
       exact bodyPost_ret (v := .tuple #[.agg #[.int .i64 0, .string ByteArray.empty, .int .i64 0], .int .i64 (i : Int)]) (by simp [results, Tryd.results86, go_sem, c0, c1, c2, World.cell?_setCell_same, World.cell?_setCell_other]; rfl) rfl ⟨rfl, wd_below hb2 (Nat.le_refl _) _ _ _⟩
     | false =>
       obtain rfl := hx1 rfl
       have hv := hv1 rfl
       by_cases h48 : g i = 48
       · rw [if_pos (.inl h48)] at hR
         subst hR
         go_wp2_with fail
         exact bodyPost_ret (v := .tuple #[.agg #[.int .i64 0, .string ByteArray.empty, .int .i64 0], .int .i64 (i : Int)]) (by simp [results, Tryd.results86, go_sem, c0, c1, c2, World.cell?_setCell_same, World.cell?_setCell_other]; rfl) rfl ⟨rfl, wd_below hb2 (Nat.le_refl _) _ _ _⟩
       · by_cases h5 : 50000 < V
         · rw [if_pos (.inr h5)] at hR
           subst hR
           have h5' : (50000 : Int) < v := by omega
           go_wp2_with fail
           exact bodyPost_ret (v := .tuple #[.agg #[.int .i64 0, .string ByteArray.empty, .int .i64 0], .int .i64 (i : Int)]) (by simp [results, Tryd.results86, go_sem, c0, c1, c2, World.cell?_setCell_same, World.cell?_setCell_other]; rfl) rfl ⟨rfl, wd_below hb2 (Nat.le_refl _) _ _ _⟩
         · rw [if_neg (by omega)] at hR
           subst hR
           subst hv
           have d48 : (g i == 48) = false := by simpa using h48
           have d5 : decide (50000 < V) = false := by simp; omega
           have d6 : decide ((50000 : Int) < (V : Int)) = false := by simp; omega
           go_wp2_with fail
           refine (HW.out _).mono ?_
           rintro e w2 ⟨rfl, hb3⟩
           have hbx2 := block_below hbx hb3 (lt_of_block hbx)
           have hb4 := hb2.trans (hb3.mono hb2.size)
           obtain ⟨c0, c1, c2, f0, f1, f2⟩ := wd_facts hbx2
           go_wp2_with fail
           exact bodyPost_ret (v := .tuple #[.agg #[.int .i64 3, .string (s.extract i d), .int .i64 (i : Int)], .int .i64 (d : Int)]) (by simp [results, Tryd.results86, go_sem, c0, c1, c2, World.cell?_setCell_same, World.cell?_setCell_other]) rfl ⟨wdTells_mk rfl rfl, wd_below hb4 (Nat.le_refl _) _ _ _⟩
   · clear hc
     obtain ⟨v, bad, hv1, hv2, hA⟩ := HA.out _ hEx
     have HA2 := Lib.hid hA
     clear hA HA
     go_enter Tryd.func86, Tryd.ntmps86
     go_wp2_with (first
      | (go_at_call 109; refine (HD.out _).mono ?_; rintro e w1 ⟨rfl, rfl⟩)
      | (go_at_call 110; refine (HL.out _).mono ?_; rintro e w1 ⟨rfl, rfl⟩))
     refine HA2.out.mono ?_
     rintro e w1 ⟨⟨x, rfl, hx1, hx2⟩, hb1⟩
     have hbx := block_below (heap_alloc_new w _) hb1 (by simp)
     have hb2 := ((Below.refl w.heap.size w).alloc (Nat.le_refl _) _).trans (hb1.mono (by simp))
     obtain ⟨c0, c1, c2, f0, f1, f2⟩ := wd_facts hbx
     cases bad with
     | true =>
       obtain ⟨N, rfl⟩ := hx2 rfl
       rw [if_pos (.inr (by have := hv2 rfl; omega))] at hR
       subst hR
       go_wp2_with fail
       exact bodyPost_ret (v := .tuple #[.agg #[.int .i64 0, .string ByteArray.empty, .int .i64 0], .int .i64 (i : Int)]) (by simp [results, Tryd.results86, go_sem, c0, c1, c2, World.cell?_setCell_same, World.cell?_setCell_other]; rfl) rfl ⟨rfl, wd_below hb2 (Nat.le_refl _) _ _ _⟩
     | false =>
       obtain rfl := hx1 rfl
       have hv := hv1 rfl
       by_cases h48 : g i = 48
       · rw [if_pos (.inl h48)] at hR
         subst hR
         go_wp2_with fail
         exact bodyPost_ret (v := .tuple #[.agg #[.int .i64 0, .string ByteArray.empty, .int .i64 0], .int .i64 (i : Int)]) (by simp [results, Tryd.results86, go_sem, c0, c1, c2, World.cell?_setCell_same, World.cell?_setCell_other]; rfl) rfl ⟨rfl, wd_below hb2 (Nat.le_refl _) _ _ _⟩
       · by_cases h5 : 50000 < V
         · rw [if_pos (.inr h5)] at hR
           subst hR
           have h5' : (50000 : Int) < v := by omega
           go_wp2_with fail
           exact bodyPost_ret (v := .tuple #[.agg #[.int .i64 0, .string ByteArray.empty, .int .i64 0], .int .i64 (i : Int)]) (by simp [results, Tryd.results86, go_sem, c0, c1, c2, World.cell?_setCell_same, World.cell?_setCell_other]; rfl) rfl ⟨rfl, wd_below hb2 (Nat.le_refl _) _ _ _⟩
         · rw [if_neg (by omega)] at hR
           subst hR
           subst hv
           have d48 : (g i == 48) = false := by simpa using h48
           have d5 : decide (50000 < V) = false := by simp; omega
           have d6 : decide ((50000 : Int) < (V : Int)) = false := by simp; omega
           go_wp2_with fail
           refine (HW.out _).mono ?_
           rintro e w2 ⟨rfl, hb3⟩
           have hbx2 := block_below hbx hb3 (lt_of_block hbx)
           have hb4 := hb2.trans (hb3.mono hb2.size)
           obtain ⟨c0, c1, c2, f0, f1, f2⟩ := wd_facts hbx2
           go_wp2_with fail
           exact bodyPost_ret (v := .tuple #[.agg #[.int .i64 3, .string (s.extract i d), .int .i64 (i : Int)], .int .i64 (d : Int)]) (by simp [results, Tryd.results86, go_sem, c0, c1, c2, World.cell?_setCell_same, World.cell?_setCell_other]) rfl ⟨wdTells_mk rfl rfl, wd_below hb4 (Nat.le_refl _) _ _ _⟩
end
end Go.Proofs.YtnoppoifepbchaaDoor
