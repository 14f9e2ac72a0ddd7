/- The document's reader: a declaration behind its key word. -/
import Derived.Test.YtnoppoifepbchaaGreatDoorRf2
import Derived.Test.YtnoppoifepbchaaGreatDoorRfI
namespace Go.Proofs.YtnoppoifepbchaaGreatDoor
open Go.RowKit
set_option linter.unusedVariables false
set_option linter.unusedSimpArgs false

def rdKeys : Array Value := #[.string ⟨#[37, 116, 111, 107, 101, 110]⟩, .string ⟨#[37, 108, 101, 102, 116]⟩, .string ⟨#[37, 114, 105, 103, 104, 116]⟩, .string ⟨#[37, 110, 111, 110, 97, 115, 115, 111, 99]⟩, .string ⟨#[37, 116, 121, 112, 101]⟩, .string ⟨#[37, 115, 116, 97, 114, 116]⟩, .string ⟨#[37, 112, 114, 101, 99]⟩]
def rdKey (k : Nat) : ByteArray := match k with | 0 => ⟨#[37, 116, 111, 107, 101, 110]⟩ | 1 => ⟨#[37, 108, 101, 102, 116]⟩ | 2 => ⟨#[37, 114, 105, 103, 104, 116]⟩ | 3 => ⟨#[37, 110, 111, 110, 97, 115, 115, 111, 99]⟩ | 4 => ⟨#[37, 116, 121, 112, 101]⟩ | 5 => ⟨#[37, 115, 116, 97, 114, 116]⟩ | _ => ⟨#[]⟩
theorem rdKey_cell {w : World} {K : Nat} {t : TypeId} (h : w.heap[K]? = some (.cells rdKeys t (0, 0))) {k : Nat} (hk : k < 6) : w.cell? ⟨K, k, none⟩ = some (.string (rdKey k)) := by
 rw [cell_of_row _ _ k _ _ _ h]
 match k, hk with
 | 0, _ => rfl
 | 1, _ => rfl
 | 2, _ => rfl
 | 3, _ => rfl
 | 4, _ => rfl
 | 5, _ => rfl
def sixI : Array Value := #[.int .i64 1, .int .i64 2, .int .i64 3, .int .i64 4, .int .i64 5, .int .i64 6]
theorem sixI_cell {w : World} {K : Nat} {t : TypeId} (h : w.heap[K]? = some (.cells sixI t (0, 0))) {k : Nat} (hk : k < 6) : w.cell? ⟨K, k, none⟩ = some (.int .i64 ((k : Int) + 1)) := by
 rw [cell_of_row _ _ k _ _ _ h]
 match k, hk with
 | 0, _ => rfl
 | 1, _ => rfl
 | 2, _ => rfl
 | 3, _ => rfl
 | 4, _ => rfl
 | 5, _ => rfl
def keyTo (t : ByteArray) : Nat → Int
 | 0 => 0
 | k + 1 => if ((rdKey k).toList == t.toList) = true then (k : Int) + 1 else keyTo t k
theorem keyTo_six (t : ByteArray) : keyTo t 6 = keyN t := by
 unfold keyN
 simp only [keyTo]
 have e : ∀ k, ((rdKey k).toList == t.toList) = true ↔ t.toList = (rdKey k).toList := fun k => by rw [beq_iff_eq]; exact eq_comm
 simp only [e]
 have h0 : (rdKey 0).toList = [37, 116, 111, 107, 101, 110] := by decide +kernel
 have h1 : (rdKey 1).toList = [37, 108, 101, 102, 116] := by decide +kernel
 have h2 : (rdKey 2).toList = [37, 114, 105, 103, 104, 116] := by decide +kernel
 have h3 : (rdKey 3).toList = [37, 110, 111, 110, 97, 115, 115, 111, 99] := by decide +kernel
 have h4 : (rdKey 4).toList = [37, 116, 121, 112, 101] := by decide +kernel
 have h5 : (rdKey 5).toList = [37, 115, 116, 97, 114, 116] := by decide +kernel
 rw [h0, h1, h2, h3, h4, h5]
 generalize t.toList = l
 by_cases a5 : l = [37, 115, 116, 97, 114, 116]
 · subst a5; simp
 by_cases a4 : l = [37, 116, 121, 112, 101]
 · subst a4; simp
 by_cases a3 : l = [37, 110, 111, 110, 97, 115, 115, 111, 99]
 · subst a3; simp
 by_cases a2 : l = [37, 114, 105, 103, 104, 116]
 · subst a2; simp
 by_cases a1 : l = [37, 108, 101, 102, 116]
 · subst a1; simp
 by_cases a0 : l = [37, 116, 111, 107, 101, 110]
 · subst a0; simp
 rw [if_neg a5, if_neg a4, if_neg a3, if_neg a2, if_neg a1, if_neg a0, if_neg a0, if_neg a1, if_neg a2, if_neg a3, if_neg a4, if_neg a5]
theorem keyTo_bd (t : ByteArray) : ∀ k, 0 ≤ keyTo t k ∧ keyTo t k ≤ k
 | 0 => by simp [keyTo]
 | k + 1 => by
   have := keyTo_bd t k
   simp only [keyTo]
   split <;> omega
theorem rdKeys_any (w : World) : Calls Tryz.prog 25 #[] w fun e w' => e = .returned (.slice (some ⟨w.heap.size, 0, none⟩) 7 7) ∧ w' = w.alloc (.cells rdKeys 9) := by
 go_enter Tryz.func25, Tryz.ntmps25
 go_wp2_with fail
 go_ret
 exact ⟨rfl, rfl⟩

theorem declInfo8 : (Tryz.prog.info? 65).map (·.size) = some 4 := by kernel_rfl
def BadAt (L : Wds) (n : Nat) (bd : Int) : Prop :=
 (keyN (wAt L n).text = 0 ∧ bd = (wAt L n).place) ∨ (keyN (wAt L n).text ≠ 0 ∧ ∃ r, declS (keyN (wAt L n).text) (wAt L n) (L.drop (n + 1)) = .bad r ∧ bd = (hdW r).place)
def RDeclGo (w0 : World) (a : Nat) (wv : Value) (L : Wds) (n : Nat) (w : World) (e : Ending) (w' : World) : Prop :=
 ∃ (d : Dc) (m : Nat) (bd : Int) (va : Option Addr) (vn vc : Nat) (S : Nat → Prop), e = .returned (.agg #[.int .i64 d.kind, .string d.tag, .slice va vn vc, .int .i64 d.pos]) ∧
  Firm S w' (fun X => SmsV X (.slice va vn vc) d.syms) ∧ (∀ b, S b → w.heap.size ≤ b) ∧ m < L.length ∧ RfAt w0 w' a wv m bd ∧ Turns (only a) w w' ∧
  ((bd = -1 ∧ n < m ∧ keyN (wAt L n).text ≠ 0 ∧ declS (keyN (wAt L n).text) (wAt L n) (L.drop (n + 1)) = .ok d (L.drop m)) ∨ (0 ≤ bd ∧ bd ≤ 100000 ∧ BadAt L n bd))

section
variable {w0 w : World} {a : Nat} {wv : Value} {n : Nat} {bad : Int} {L : Wds}
set_option maxRecDepth 100000 in
set_option maxHeartbeats 40000000 in
theorem rdecl_any (hI : RdIn w0 wv L a) (h : RfAt w0 w a wv (n + 1) (-1)) (hn1 : n + 1 < L.length) :
  Calls Tryz.prog 58 #[.pointer (some ⟨a, 0, none⟩), (wAt L n).agg8] w (RDeclGo w0 a wv L n w) := by
 have ha := h.lt
 have hlt := h.below.size
 have hL6 := hI.ok.len
 have hn : n < L.length := by omega
 have hxp := hI.ok.place _ (wAt_mem hn)
 have HI := Lib.hid hI
 unfold Wd.agg8
 obtain ⟨⟨xk, xt, xp⟩, hx⟩ : ∃ x, wAt L n = x := ⟨_, rfl⟩
 rw [hx] at hxp ⊢
 simp only at hxp ⊢
 have HX := Lib.hid hx
 clear hI hx hn
 have hE0 := heap_made w #[.int .i64 xk, .string xt, .int .i64 xp] 42 _ rfl
 have hE1 := heap_keep _ (.cells #[.int .i64 0, .string ⟨#[]⟩, .slice none 0 0, .int .i64 0] 65) hE0
 have hA1 := heap_made (w.alloc (.cells #[.int .i64 xk, .string xt, .int .i64 xp] 42)) #[.int .i64 0, .string ⟨#[]⟩, .slice none 0 0, .int .i64 0] 65 (w.heap.size + 1) (World.size_alloc _ _).symm
 go_enter Tryz.func58, Tryz.ntmps58
 go_upto_block 0 with (first | (go_at_call 25; (with_reducible refine (rdKeys_any _).mono ?_); rintro e w1 ⟨rfl, rfl⟩))
 have hb1 := (((((Below.refl w.heap.size w).alloc (Nat.le_refl _) (.cells #[.int .i64 xk, .string xt, .int .i64 xp] 42)).alloc (by simp) (.cells #[.int .i64 0, .string ⟨#[]⟩, .slice none 0 0, .int .i64 0] 65)).alloc (by simp; omega) (.cells #[.int .i64 0, .string ⟨#[]⟩, .slice none 0 0, .int .i64 xp] 65)).alloc (by simp; omega) (.cells rdKeys 9))
 have hs2 : ((w.alloc (.cells #[.int .i64 xk, .string xt, .int .i64 xp] 42)).alloc (.cells #[.int .i64 0, .string ⟨#[]⟩, .slice none 0 0, .int .i64 0] 65)).heap.size = w.heap.size + 1 + 1 := by rw [World.size_alloc, World.size_alloc]
 have hD2 := heap_made ((w.alloc (.cells #[.int .i64 xk, .string xt, .int .i64 xp] 42)).alloc (.cells #[.int .i64 0, .string ⟨#[]⟩, .slice none 0 0, .int .i64 0] 65)) #[.int .i64 0, .string ⟨#[]⟩, .slice none 0 0, .int .i64 xp] 65 (w.heap.size + 1 + 1) hs2.symm
 have hE2 := heap_keep _ (.cells #[.int .i64 0, .string ⟨#[]⟩, .slice none 0 0, .int .i64 xp] 65) hE1
 have hA2 := heap_keep _ (.cells #[.int .i64 0, .string ⟨#[]⟩, .slice none 0 0, .int .i64 xp] 65) hA1
 have hs3 : (((w.alloc (.cells #[.int .i64 xk, .string xt, .int .i64 xp] 42)).alloc (.cells #[.int .i64 0, .string ⟨#[]⟩, .slice none 0 0, .int .i64 0] 65)).alloc (.cells #[.int .i64 0, .string ⟨#[]⟩, .slice none 0 0, .int .i64 xp] 65)).heap.size = w.heap.size + 1 + 1 + 1 := by rw [World.size_alloc, hs2]
 generalize ((w.alloc (.cells #[.int .i64 xk, .string xt, .int .i64 xp] 42)).alloc (.cells #[.int .i64 0, .string ⟨#[]⟩, .slice none 0 0, .int .i64 0] 65)).alloc (.cells #[.int .i64 0, .string ⟨#[]⟩, .slice none 0 0, .int .i64 xp] 65) = wd at hb1 hD2 hE2 hA2 hs3 ⊢
 have hK3 := heap_made wd rdKeys 9 (w.heap.size + 1 + 1 + 1) hs3.symm
 have hD3 := heap_keep _ (.cells rdKeys 9) hD2
 have hE3 := heap_keep _ (.cells rdKeys 9) hE2
 have hA3 := heap_keep _ (.cells rdKeys 9) hA2
 have hs4 : (wd.alloc (.cells rdKeys 9)).heap.size = w.heap.size + 1 + 1 + 1 + 1 := by rw [World.size_alloc, hs3]
 generalize wd.alloc (.cells rdKeys 9) = wk at hb1 hK3 hD3 hE3 hA3 hs4 ⊢
 clear hD2 hE2 hA2 hs2 hs3 hE0 hE1 hA1
 have h3 := h.ahead hb1
 have ht3 := Turns.of_below (S := only a) hb1
 generalize hAA : w.heap.size + 1 = A at hK3 hD3 hA3 hs4 ⊢
 have hwA : w.heap.size < A := by omega
 clear hAA
 generalize hDD : A + 1 = D at hK3 hD3 hs4 ⊢
 have hAD : A < D := by omega
 clear hDD
 generalize hKK : D + 1 = K at hK3 hs4 ⊢
 have hDK : D < K := by omega
 have hKs : K < wk.heap.size := by omega
 clear hKK hs4 hb1 h
 have hDa : D ≠ a := by omega
 have hAa : A ≠ a := by omega
 go_cut [7] from 16 to 31 (fun x7 V => RfAt w0 V a wv (n + 1) (-1) ∧ Turns (only a) w V ∧ V.heap[D]? = some (.cells #[.int .i64 (keyN xt), .string ⟨#[]⟩, .slice none 0 0, .int .i64 xp] 65 (0, 0)) ∧ V.heap[A]? = some (.cells #[.int .i64 0, .string ⟨#[]⟩, .slice none 0 0, .int .i64 0] 65 (0, 0)) ∧ K < V.heap.size)
 case first =>
  go_wp2_with fail
  go_loopw [7] (fun i V => ∃ k : Nat, k ≤ 6 ∧ i = .int .i64 k ∧ RfAt w0 V a wv (n + 1) (-1) ∧ Turns (only a) w V ∧ V.heap[D]? = some (.cells #[.int .i64 (keyTo xt k), .string ⟨#[]⟩, .slice none 0 0, .int .i64 xp] 65 (0, 0)) ∧ V.heap[A]? = some (.cells #[.int .i64 0, .string ⟨#[]⟩, .slice none 0 0, .int .i64 0] 65 (0, 0)) ∧ V.heap[w.heap.size]? = some (.cells #[.int .i64 xk, .string xt, .int .i64 xp] 42 (0, 0)) ∧ V.heap[K]? = some (.cells rdKeys 9 (0, 0)) ∧ K < V.heap.size) (fun i _ => 6 - (intOf i).toNat)
  case atStart => exact ⟨0, by omega, rfl, h3, ht3, hD3, hA3, hE3, hK3, hKs⟩
  case round =>
   clear h3 ht3 hD3 hA3 hE3 hK3 hKs
   obtain ⟨k, hk, rfl, hR, hT, hD, hA, hE, hK, hs⟩ := hrel
   rename World => V
   by_cases hlt : k < 6
   · have ck := rdKey_cell hK hlt
     have hkn : keyTo xt (k + 1) = if ((rdKey k).toList == xt.toList) = true then (k : Int) + 1 else keyTo xt k := rfl
     generalize rdKey k = kt at ck hkn
     have e1 : V.cell? ⟨w.heap.size, 1, none⟩ = some (.string xt) := cell_of_row _ _ 1 _ _ _ hE
     have i6 : (k : Int) < 6 := by omega
     have i7 : (k : Int) < 7 := by omega
     cases hb : (kt.toList == xt.toList) with
     | true =>
       have HK1 : Hid (keyTo xt (k + 1) = (k : Int) + 1) := Lib.hid (by rw [hkn, if_pos hb])
       clear hkn
       have HV := Lib.hid (And.intro hR (And.intro hT (And.intro hD (And.intro hA (And.intro hE (And.intro hK hs))))))
       have d0 : V.cell? ⟨D, 0, none⟩ = some (.int .i64 (keyTo xt k)) := cell_of_row _ _ 0 _ _ _ hD
       have d0a := rdCell_alloc d0 (.cells sixI 3)
       unfold sixI at d0a
       have fd : (V.alloc (.cells #[.int .i64 1, .int .i64 2, .int .i64 3, .int .i64 4, .int .i64 5, .int .i64 6] 3)).frozen? ⟨D, 0, none⟩ = false := free_of_block (heap_keep V (.cells sixI 3) hD)
       clear hR hT hD hA hE hK hs i6 i7
       rcases (show k = 0 ∨ k = 1 ∨ k = 2 ∨ k = 3 ∨ k = 4 ∨ k = 5 by omega) with rfl | rfl | rfl | rfl | rfl | rfl
       · clear hlt hk
         go_wp2_with fail
         go_region
         go_wp2_with fail
         obtain ⟨hR, hT, hD, hA, hE, hK, hs⟩ := HV.out
         have k9 := (Below.refl V.heap.size V).alloc (Nat.le_refl _) (.cells sixI 3)
         have q1 := (hR.ahead k9).aside (j := 0) hDa (by omega) (.int .i64 1)
         have q2 := (hT.alloc (.cells sixI 3)).setCell (p := ⟨D, 0, none⟩) (.inr (show w.heap.size ≤ D by omega)) (.int .i64 1)
         have q3 := block_setCell (j := 0) (u := .int .i64 1) (heap_keep V (.cells sixI 3) hD)
         have q4 := fun (b : Nat) (hb : b ≠ D) => Below.heap_setCell (V.alloc (.cells sixI 3)) ⟨D, 0, none⟩ (.int .i64 1) b hb
         have hk9 : keyTo xt 1 = 1 := HK1.out
         have hsz : K < ((V.alloc (.cells sixI 3)).setCell ⟨D, 0, none⟩ (.int .i64 1)).heap.size := by simp [World.setCell]; omega
         unfold sixI at q1 q2 q3 q4 hsz
         exact ⟨⟨1, by decide, rfl, q1.ahead (Below.refl _ _).drew, q2.drew, by rw [hk9]; exact q3, (q4 A (by omega)).trans (heap_keep _ _ hA), (q4 _ (by omega)).trans (heap_keep _ _ hE), (q4 K (by omega)).trans (heap_keep _ _ hK), hsz⟩, by simp [intOf]⟩
       · clear hlt hk
         go_wp2_with fail
         go_region
         go_wp2_with fail
         obtain ⟨hR, hT, hD, hA, hE, hK, hs⟩ := HV.out
         have k9 := (Below.refl V.heap.size V).alloc (Nat.le_refl _) (.cells sixI 3)
         have q1 := (hR.ahead k9).aside (j := 0) hDa (by omega) (.int .i64 2)
         have q2 := (hT.alloc (.cells sixI 3)).setCell (p := ⟨D, 0, none⟩) (.inr (show w.heap.size ≤ D by omega)) (.int .i64 2)
         have q3 := block_setCell (j := 0) (u := .int .i64 2) (heap_keep V (.cells sixI 3) hD)
         have q4 := fun (b : Nat) (hb : b ≠ D) => Below.heap_setCell (V.alloc (.cells sixI 3)) ⟨D, 0, none⟩ (.int .i64 2) b hb
         have hk9 : keyTo xt 2 = 2 := HK1.out
         have hsz : K < ((V.alloc (.cells sixI 3)).setCell ⟨D, 0, none⟩ (.int .i64 2)).heap.size := by simp [World.setCell]; omega
         unfold sixI at q1 q2 q3 q4 hsz
         exact ⟨⟨2, by decide, rfl, q1.ahead (Below.refl _ _).drew, q2.drew, by rw [hk9]; exact q3, (q4 A (by omega)).trans (heap_keep _ _ hA), (q4 _ (by omega)).trans (heap_keep _ _ hE), (q4 K (by omega)).trans (heap_keep _ _ hK), hsz⟩, by simp [intOf]⟩
       · clear hlt hk
         go_wp2_with fail
         go_region
         go_wp2_with fail
         obtain ⟨hR, hT, hD, hA, hE, hK, hs⟩ := HV.out
         have k9 := (Below.refl V.heap.size V).alloc (Nat.le_refl _) (.cells sixI 3)
         have q1 := (hR.ahead k9).aside (j := 0) hDa (by omega) (.int .i64 3)
         have q2 := (hT.alloc (.cells sixI 3)).setCell (p := ⟨D, 0, none⟩) (.inr (show w.heap.size ≤ D by omega)) (.int .i64 3)
         have q3 := block_setCell (j := 0) (u := .int .i64 3) (heap_keep V (.cells sixI 3) hD)
         have q4 := fun (b : Nat) (hb : b ≠ D) => Below.heap_setCell (V.alloc (.cells sixI 3)) ⟨D, 0, none⟩ (.int .i64 3) b hb
         have hk9 : keyTo xt 3 = 3 := HK1.out
         have hsz : K < ((V.alloc (.cells sixI 3)).setCell ⟨D, 0, none⟩ (.int .i64 3)).heap.size := by simp [World.setCell]; omega
         unfold sixI at q1 q2 q3 q4 hsz
         exact ⟨⟨3, by decide, rfl, q1.ahead (Below.refl _ _).drew, q2.drew, by rw [hk9]; exact q3, (q4 A (by omega)).trans (heap_keep _ _ hA), (q4 _ (by omega)).trans (heap_keep _ _ hE), (q4 K (by omega)).trans (heap_keep _ _ hK), hsz⟩, by simp [intOf]⟩
       · clear hlt hk
         go_wp2_with fail
         go_region
         go_wp2_with fail
         obtain ⟨hR, hT, hD, hA, hE, hK, hs⟩ := HV.out
         have k9 := (Below.refl V.heap.size V).alloc (Nat.le_refl _) (.cells sixI 3)
         have q1 := (hR.ahead k9).aside (j := 0) hDa (by omega) (.int .i64 4)
         have q2 := (hT.alloc (.cells sixI 3)).setCell (p := ⟨D, 0, none⟩) (.inr (show w.heap.size ≤ D by omega)) (.int .i64 4)
         have q3 := block_setCell (j := 0) (u := .int .i64 4) (heap_keep V (.cells sixI 3) hD)
         have q4 := fun (b : Nat) (hb : b ≠ D) => Below.heap_setCell (V.alloc (.cells sixI 3)) ⟨D, 0, none⟩ (.int .i64 4) b hb
         have hk9 : keyTo xt 4 = 4 := HK1.out
         have hsz : K < ((V.alloc (.cells sixI 3)).setCell ⟨D, 0, none⟩ (.int .i64 4)).heap.size := by simp [World.setCell]; omega
         unfold sixI at q1 q2 q3 q4 hsz
         exact ⟨⟨4, by decide, rfl, q1.ahead (Below.refl _ _).drew, q2.drew, by rw [hk9]; exact q3, (q4 A (by omega)).trans (heap_keep _ _ hA), (q4 _ (by omega)).trans (heap_keep _ _ hE), (q4 K (by omega)).trans (heap_keep _ _ hK), hsz⟩, by simp [intOf]⟩
       · clear hlt hk
         go_wp2_with fail
         go_region
         go_wp2_with fail
         obtain ⟨hR, hT, hD, hA, hE, hK, hs⟩ := HV.out
         have k9 := (Below.refl V.heap.size V).alloc (Nat.le_refl _) (.cells sixI 3)
         have q1 := (hR.ahead k9).aside (j := 0) hDa (by omega) (.int .i64 5)
         have q2 := (hT.alloc (.cells sixI 3)).setCell (p := ⟨D, 0, none⟩) (.inr (show w.heap.size ≤ D by omega)) (.int .i64 5)
         have q3 := block_setCell (j := 0) (u := .int .i64 5) (heap_keep V (.cells sixI 3) hD)
         have q4 := fun (b : Nat) (hb : b ≠ D) => Below.heap_setCell (V.alloc (.cells sixI 3)) ⟨D, 0, none⟩ (.int .i64 5) b hb
         have hk9 : keyTo xt 5 = 5 := HK1.out
         have hsz : K < ((V.alloc (.cells sixI 3)).setCell ⟨D, 0, none⟩ (.int .i64 5)).heap.size := by simp [World.setCell]; omega
         unfold sixI at q1 q2 q3 q4 hsz
         exact ⟨⟨5, by decide, rfl, q1.ahead (Below.refl _ _).drew, q2.drew, by rw [hk9]; exact q3, (q4 A (by omega)).trans (heap_keep _ _ hA), (q4 _ (by omega)).trans (heap_keep _ _ hE), (q4 K (by omega)).trans (heap_keep _ _ hK), hsz⟩, by simp [intOf]⟩
       · clear hlt hk
         go_wp2_with fail
         go_region
         go_wp2_with fail
         obtain ⟨hR, hT, hD, hA, hE, hK, hs⟩ := HV.out
         have k9 := (Below.refl V.heap.size V).alloc (Nat.le_refl _) (.cells sixI 3)
         have q1 := (hR.ahead k9).aside (j := 0) hDa (by omega) (.int .i64 6)
         have q2 := (hT.alloc (.cells sixI 3)).setCell (p := ⟨D, 0, none⟩) (.inr (show w.heap.size ≤ D by omega)) (.int .i64 6)
         have q3 := block_setCell (j := 0) (u := .int .i64 6) (heap_keep V (.cells sixI 3) hD)
         have q4 := fun (b : Nat) (hb : b ≠ D) => Below.heap_setCell (V.alloc (.cells sixI 3)) ⟨D, 0, none⟩ (.int .i64 6) b hb
         have hk9 : keyTo xt 6 = 6 := HK1.out
         have hsz : K < ((V.alloc (.cells sixI 3)).setCell ⟨D, 0, none⟩ (.int .i64 6)).heap.size := by simp [World.setCell]; omega
         unfold sixI at q1 q2 q3 q4 hsz
         exact ⟨⟨6, by decide, rfl, q1.ahead (Below.refl _ _).drew, q2.drew, by rw [hk9]; exact q3, (q4 A (by omega)).trans (heap_keep _ _ hA), (q4 _ (by omega)).trans (heap_keep _ _ hE), (q4 K (by omega)).trans (heap_keep _ _ hK), hsz⟩, by simp [intOf]⟩
     | false =>
       have HK1 : Hid (keyTo xt (k + 1) = keyTo xt k) := Lib.hid (by rw [hkn, if_neg (by rw [hb]; decide)])
       clear hkn
       go_wp2_with fail
       go_region
       go_wp2_with fail
       exact ⟨⟨k + 1, by omega, by simp, hR.ahead (Below.refl _ _).drew, hT.drew, by rw [HK1.out]; exact hD, hA, hE, hK, hs⟩, by simp [intOf]; omega⟩
   · have i6 : ¬ ((k : Int) < 6) := by omega
     obtain rfl : k = 6 := by omega
     rw [keyTo_six] at hD
     go_wp2_with fail
     go_meet
     case rel => exact ⟨hR, hT, hD, hA, hs⟩
 case rest =>
  obtain ⟨hR, hT, hD, hA, hs⟩ := hcut
  rename World => V
  have hDs : D + 1 ≤ V.heap.size := by omega
  have HSP : Hid (∀ k, keyN xt = k → declS k (wAt L n) (L.drop (n + 1)) = declS (keyN xt) (wAt L n) (L.drop (n + 1))) := Lib.hid (fun k h => by rw [h])
  by_cases hK0 : keyN xt = 0
  · have HB : Hid (BadAt L n xp) := Lib.hid (by unfold BadAt; rw [HX.out]; exact .inl ⟨hK0, rfl⟩)
    generalize keyN xt = kd at hK0 hD HSP
    subst hK0
    have HFl := Lib.hid (fun (X : World) (hX : RfAt w0 X a wv n (-1)) => fail_any HI.out hX (show n < L.length by omega) (.inl rfl))
    rw [HX.out] at HFl
    simp only at HFl
    rw [badOr_open] at HFl
    have d0 : V.cell? ⟨D, 0, none⟩ = some (.int .i64 0) := cell_of_row _ _ 0 _ _ _ hD
    obtain ⟨_, c1, _⟩ := hR.cells
    have f1 := hR.free 1
    have hsub : ((n + 1 : Nat) : Int) - 1 = n := by omega
    obtain ⟨h4, ht4⟩ := hR.move HI.out n
    have hD4 := (Below.heap_setCell V ⟨a, 1, none⟩ (.int .i64 n) _ hDa).trans hD
    have hA4 := (Below.heap_setCell V ⟨a, 1, none⟩ (.int .i64 n) _ hAa).trans hA
    have HFl4 := Lib.hid (HFl.out _ h4)
    have hT4 := hT.trans ht4 (fun _ _ h => h)
    go_upto_region 11 with (first | (go_at_call 59; (with_reducible refine HFl4.out.mono ?_); rintro e w5 ⟨rfl, h5, ht5⟩))
    clear hR hT hD hA h4 ht4 d0 c1 f1
    have hD := ht5.heap hD4 (show ¬ only a D from hDa)
    have hA := ht5.heap hA4 (show ¬ only a A from hAa)
    have hR := h5
    have hT := hT4.trans ht5 (fun _ _ h => h)
    clear hD4 hA4 h5 ht5 hT4
    obtain ⟨d0, d1, d2, d3, e0, e1, e2, e3⟩ := box4 hD
    obtain ⟨a0, a1, a2, a3, g0, g1, g2, g3⟩ := box4 hA
    have HR := Lib.hid (And.intro hR hT)
    clear hR hT
    go_wp2_with fail
    obtain ⟨hR, hT⟩ := HR.out
    have hRR := set4_row8 hA (.int .i64 0) (.string ⟨#[]⟩) (.slice none 0 0) (.int .i64 xp)
    exact bodyPost_ret (v := .agg #[.int .i64 0, .string ⟨#[]⟩, .slice none 0 0, .int .i64 xp]) (results_cell_row rfl _ _ A 65 #[.int .i64 0, .string ⟨#[]⟩, .slice none 0 0, .int .i64 xp] (0, 0) _ rfl hRR Tryz.underlying65 rfl declInfo8) rfl
     ⟨⟨0, ⟨#[]⟩, [], xp⟩, n, xp, none, 0, 0, _, rfl, Firm.pure (fun X => ListV.nil 4 smR X), fun _ h => h.elim, by omega, hR.aside4 hAa (by omega) _ _ _ _, hT.set4 (.inr (by omega)) _ _ _ _, .inr ⟨hxp.1, hxp.2, HB.out⟩⟩
  · generalize hkd : keyN xt = kd at hK0 hD
    have hkb := keyTo_bd xt 6
    rw [keyTo_six, hkd] at hkb
    have HPA : Hid (∀ d m, declS kd ⟨xk, xt, xp⟩ (L.drop (n + 1)) = .ok d (L.drop m) → n < m → (n < m ∧ keyN (wAt L n).text ≠ 0 ∧ declS (keyN (wAt L n).text) (wAt L n) (L.drop (n + 1)) = .ok d (L.drop m))) := Lib.hid (fun d m h h2 => by rw [HX.out]; simp only; rw [hkd]; exact ⟨h2, hK0, h⟩)
    have HPB : Hid (∀ m, m < L.length → declS kd ⟨xk, xt, xp⟩ (L.drop (n + 1)) = .bad (L.drop m) → 0 ≤ (wAt L m).place ∧ (wAt L m).place ≤ 100000 ∧ BadAt L n (wAt L m).place) := Lib.hid (fun m hm h => ⟨(HI.out.ok.place _ (wAt_mem hm)).1, (HI.out.ok.place _ (wAt_mem hm)).2, by unfold BadAt; rw [HX.out]; simp only; rw [hkd]; exact .inr ⟨hK0, _, h, rfl⟩⟩)
    have HP : Hid (declS kd ⟨xk, xt, xp⟩ (L.drop (n + 1)) = if kd = 5 ∧ (wAt L (n + 1)).kind ≠ 4 then .bad (L.drop (n + 1)) else if (rdSyms kd (tagS kd (L.drop (n + 1))).2).1 = [] then .bad (rdSyms kd (tagS kd (L.drop (n + 1))).2).2 else .ok ⟨kd, (tagS kd (L.drop (n + 1))).1, (rdSyms kd (tagS kd (L.drop (n + 1))).2).1, xp⟩ (rdSyms kd (tagS kd (L.drop (n + 1))).2).2) := Lib.hid rfl
    have HTg : Hid (tagS kd (L.drop (n + 1)) = if kd ≠ 6 ∧ (wAt L (n + 1)).kind = 4 then ((wAt L (n + 1)).text, L.drop (n + 2)) else (ByteArray.empty, L.drop (n + 1))) := Lib.hid (by unfold tagS; rw [drop_tail]; rfl)
    generalize declS kd ⟨xk, xt, xp⟩ (L.drop (n + 1)) = RES at HP HPA HPB
    generalize tagS kd (L.drop (n + 1)) = TG at HP HTg
    have HNo := Lib.hid (fun (X : World) (hX : RfAt w0 X a wv (n + 1) (-1)) => now_any HI.out hX hn1)
    have HTa := Lib.hid (fun (X : World) (hX : RfAt w0 X a wv (n + 1) (-1)) => rtake_any HI.out hX hn1 4 ⟨#[]⟩)
    rw [isB_open] at HTa
    have HFa := Lib.hid (fun (X : World) (hX : RfAt w0 X a wv (n + 1) (-1)) => fail_any HI.out hX hn1 (.inl rfl))
    have HNx2 : Hid ((wAt L (n + 1)).kind = 4 → n + 2 < L.length) := Lib.hid (fun e => HI.out.ok.next hn1 (by omega))
    have HPy := Lib.hid (HI.out.ok.place _ (wAt_mem hn1))
    unfold Wd.agg8 at HNo
    clear HSP
    by_cases h6 : kd = 6
    · have hb6 : (kd == 6) = true := by simp [h6]
      have hb6n : (kd != 6) = false := by simp [h6]
      have hb5 : (kd == 5) = false := by rw [h6]; rfl
      have hb0 : (kd == 0) = false := by rw [h6]; rfl
      have H1F : Hid (kd ≠ 1) := Lib.hid (by omega)
      have H6 := Lib.hid h6
      have HLB : Hid ((decide (kd = 5) || decide (kd = 6)) = true) := Lib.hid (by simp [h6])
      have HQ : Hid (RES = if (rdSyms kd (L.drop (n + 1))).1 = [] then .bad (rdSyms kd (L.drop (n + 1))).2 else .ok ⟨kd, ByteArray.empty, (rdSyms kd (L.drop (n + 1))).1, xp⟩ (rdSyms kd (L.drop (n + 1))).2) := Lib.hid (by rw [HP.out, HTg.out, if_neg (show ¬ (kd ≠ 6 ∧ (wAt L (n + 1)).kind = 4) by omega), if_neg (show ¬ (kd = 5 ∧ (wAt L (n + 1)).kind ≠ 4) by omega)])
      have HN2 := Lib.hid (show n + 1 < L.length ∧ n < n + 1 from ⟨hn1, Nat.lt_succ_self _⟩)
      have hKD := Lib.hid hkd
      have hKZ := Lib.hid hK0
      clear h6 HP HTg HNo HTa HFa HNx2 HPy hkd hK0
      have d0 : V.cell? ⟨D, 0, none⟩ = some (.int .i64 kd) := cell_of_row _ _ 0 _ _ _ hD
      go_upto_block 2 with fail
      have hn2 := HN2.out
      generalize n + 1 = q at hR hn2 HQ ⊢
      clear HN2
      have D2 : V.cell? ⟨D, 2, none⟩ = some (.slice none 0 0) := cell_of_row _ _ 2 _ _ _ hD
      go_cut [] from 60 to 105 (fun wx => ∃ (m : Nat) (sv : Value) (ys : List Value) (acc : List Sm), RfAt w0 wx a wv m (-1) ∧ Turns (only a) w wx ∧ wx.heap[D]? = some (.cells #[.int .i64 kd, .string ⟨#[]⟩, sv, .int .i64 xp] 65 (0, 0)) ∧ wx.heap[A]? = some (.cells #[.int .i64 0, .string ⟨#[]⟩, .slice none 0 0, .int .i64 0] 65 (0, 0)) ∧ D + 1 ≤ wx.heap.size ∧ GrowL (D + 1) 60 4 smR (fun _ => False) wx sv ys acc ∧ Hid (rdSyms kd (L.drop q) = (acc, L.drop m)) ∧ m < L.length ∧ n < m ∧ acc.length ≤ 100000)
      case first =>
       go_wp2_with fail
       go_loopg [] L.length (fun gg V => ∃ (m : Nat) (sv : Value) (ys : List Value) (acc : List Sm), L.length ≤ m + gg ∧ RfAt w0 V a wv m (-1) ∧ Turns (only a) w V ∧ V.heap[D]? = some (.cells #[.int .i64 kd, .string ⟨#[]⟩, sv, .int .i64 xp] 65 (0, 0)) ∧ V.heap[A]? = some (.cells #[.int .i64 0, .string ⟨#[]⟩, .slice none 0 0, .int .i64 0] 65 (0, 0)) ∧ D + 1 ≤ V.heap.size ∧ GrowL (D + 1) 60 4 smR (fun _ => False) V sv ys acc ∧ Hid (SymsTo kd L q acc m) ∧ m < L.length ∧ n < m ∧ acc.length ≤ m)
       case atStart => exact ⟨q, _, [], [], by omega, hR, hT, hD, hA, hDs, GrowL.nil _ _ _ _ _, Lib.hid (SymsTo.none _ _ _), by omega, by omega, Nat.zero_le _⟩
       case round =>
        clear hR hT hD hA D2 hDs
        obtain ⟨m, sv, ys, acc, hgg, hR, hT, hD, hA, hDs, hg, HX2, hm, hnm, hal⟩ := hrel
        rename World => V
        have hIs := Lib.hid (is_any HI.out hR hm 2 ⟨#[]⟩)
        rw [isB_open] at hIs
        have hSy := Lib.hid (fun (X : World) (hX : RfAt w0 X a wv m (-1)) => symbol_any HI.out hX hm)
        have hdc := declares_sym kd (wAt L m)
        have HStop : Hid (declaresB kd (wAt L m) = false → rdSyms kd (L.drop q) = (acc, L.drop m)) := Lib.hid (fun h => HX2.out.stop (syms_stop hm h))
        have HBd : Hid (declaresB kd (wAt L m) = true → m < declN kd L m ∧ declN kd L m < L.length) := Lib.hid (fun h => declN_bd HI.out.ok hm h)
        have HS1 : Hid (declaresB kd (wAt L m) = true → kd ≠ 6 → SymsTo kd L q (acc ++ [declX kd L m]) (declN kd L m)) := Lib.hid (fun h h6 => HX2.out.step (syms_one hm h6 h))
        have HS6 : Hid (declaresB kd (wAt L m) = true → kd = 6 → rdSyms kd (L.drop q) = (acc ++ [declX kd L m], L.drop (declN kd L m))) := Lib.hid (fun h h6 => by subst h6; rw [declN_six, declX_six]; exact HX2.out.start hm h)
        have HNx : Hid (symB2 (wAt L m) = true → m + 1 < L.length) := Lib.hid (fun e => HI.out.ok.next hm (by unfold symB2 at e; simp only [decide_eq_true_eq] at e; omega))
        have HDN : Hid (declN kd L m = if decide (kd = 1 ∧ (wAt L m).kind = 1 ∧ (wAt L (m + 1)).kind = 3) = true then m + 2 else m + 1) := Lib.hid rfl
        have HDX : Hid (declX kd L m = if decide (kd = 1 ∧ (wAt L m).kind = 1 ∧ (wAt L (m + 1)).kind = 3) = true then smOf (wAt L m) (rdNum (wAt L (m + 1)).text : Nat) else smOf (wAt L m) 0) := Lib.hid rfl
        have HNow := Lib.hid (fun (h : m + 1 < L.length) (X : World) (hX : RfAt w0 X a wv (m + 1) (-1)) => now_any HI.out hX h)
        have HTk := Lib.hid (fun (h : m + 1 < L.length) (X : World) (hX : RfAt w0 X a wv (m + 1) (-1)) => rtake_any HI.out hX h 3 ⟨#[]⟩)
        have HNum : Hid (m + 1 < L.length → (wAt L (m + 1)).kind = 3 → (wAt L (m + 1)).text.size ≤ 5 ∧ ∀ c ∈ (wAt L (m + 1)).text.data.toList, 48 ≤ c.toNat ∧ c.toNat ≤ 57) := Lib.hid (fun h h3 => ⟨(HI.out.ok.num _ (wAt_mem h) h3).1, (HI.out.ok.num _ (wAt_mem h) h3).2.2.1⟩)
        clear HX2
        unfold SymGo at hSy
        simp only [symB3_open] at hSy
        unfold smOf at hSy HDX
        unfold Sm.agg at hSy
        unfold Wd.agg8 at HNow
        rw [isB_open] at HTk
        generalize declaresB kd (wAt L m) = db at hdc HStop HBd HS1 HS6
        have HZS : Hid ((wAt L m).kind = 2 → symB2 (wAt L m) = true) := Lib.hid (fun e => by unfold symB2; simp [e])
        have HZT : Hid (symB2 (wAt L m) = true → (wAt L m).kind = 1 ∨ (wAt L m).kind = 2) := Lib.hid (fun e => by unfold symB2 at e; simpa using e)
        generalize symB2 (wAt L m) = sb at hdc hSy HNx HZS HZT
        generalize declN kd L m = m2 at HBd HS1 HS6 HDN
        generalize declX kd L m = X at HS1 HS6 HDX
        generalize wAt L (m + 1) = y at HNow HTk HNum HDN HDX
        generalize wAt L m = z at hdc hIs hSy HDN HDX HZS HZT
        obtain ⟨zk, zt, zp⟩ := z
        obtain ⟨yk, yt, yp⟩ := y
        simp only at hdc hIs hSy HDN HDX HNow HTk HNum HZS HZT
        have d0 : V.cell? ⟨D, 0, none⟩ = some (.int .i64 kd) := cell_of_row _ _ 0 _ _ _ hD
        have hlb : Hid ((decide (kd = 5) || decide (kd = 6)) = true) := Lib.hid HLB.out
        rw [hlb.out] at hdc
        cases hz2 : decide (zk = 2) with
        | true =>
          rw [hz2] at hIs hdc hSy HDX
          have hdb : db = false := by rw [hdc]; cases sb <;> rfl
          subst hdb
          have HE := Lib.hid (HStop.out rfl)
          clear hdc HStop HBd HS1 HS6
          go_wp2_with (first | (go_at_call 55; (with_reducible refine hIs.out.mono ?_); rintro e V1 ⟨rfl, hv1⟩; have d01 := (hv1.cell (p := ⟨D, 0, none⟩) (World.block_lt_of_cell? _ _ d0)).trans d0))
          go_meet
          case rel => exact ⟨m, sv, ys, acc, hR.ahead hv1, hT.far (hv1.mono hT.size), block_below hD hv1 (by omega), block_below hA hv1 (by omega), Nat.le_trans hDs hv1.size, hg.below hv1, HE, hm, hnm, by omega⟩
        | false =>
          rw [hz2] at hIs hdc hSy HDX
          cases sb with
          | true =>
            obtain rfl : db = true := by rw [hdc]; rfl
            have HZ1 : Hid (zk = 1) := Lib.hid (by have h1 := HZT.out rfl; simp only [decide_eq_false_iff_not] at hz2; omega)
            clear hdc HStop
            have hm1 := HNx.out rfl
            have hDb := HBd.out rfl
            replace HS1 := Lib.hid (HS1.out rfl)
            replace HS6 := Lib.hid (HS6.out rfl)
            go_upto_region 20 with (first | (go_at_call 55; (with_reducible refine hIs.out.mono ?_); rintro e V1 ⟨rfl, hv1⟩; have d01 := (hv1.cell (p := ⟨D, 0, none⟩) (World.block_lt_of_cell? _ _ d0)).trans d0) | (go_at_call 90; (with_reducible refine (hSy.out _ (hR.ahead hv1)).mono ?_); rintro e V5 hpost; rcases hpost with ⟨hsb, rfl, h5, ht5⟩ | ⟨hsb, rfl, h5, ht5⟩))
            rotate_left 1
            · cases hsb
            clear hsb
            have hv := hv1
            replace hR := hR.ahead hv
            replace hT := hT.far (hv.mono hT.size)
            replace hD := block_below hD hv (by omega)
            replace hA := block_below hA hv (by omega)
            replace hg := hg.below hv
            replace hDs := Nat.le_trans hDs hv.size
            clear hv hIs hSy
            have D5 := ht5.heap hD (show ¬ only a D from hDa)
            have A5 := ht5.heap hA (show ¬ only a A from hAa)
            have HGL : Hid (∀ b, (False ∨ sv.ownBlock = some b) → b < V5.heap.size) := Lib.hid (fun b hb => Nat.lt_of_lt_of_le (hg.lt b hb) ht5.size)
            have g5 := hg.keep (w' := V5) (fun b hb => by rcases hb with hb | hb; exact hb.elim; exact ht5.block b (hg.own.lt b hb).2 (fun e => by have := own_base hg.own (Nat.le_refl _) b hb; unfold only at e; omega))
            have hT5 := hT.trans ht5 (fun _ _ h => h)
            have hs5 := ht5.size
            clear hR hT hD hA hg ht5
            have hv := (Below.refl V5.heap.size V5).alloc (Nat.le_refl _) (.cells #[.string zt, .bool false, .int .i64 0, .int .i64 zp] 60)
            have hX := heap_made V5 #[.string zt, .bool false, .int .i64 0, .int .i64 zp] 60 _ rfl
            have hR := h5.ahead hv
            have hT := hT5.far (hv.mono hT5.size)
            have hD := block_below D5 hv (by omega)
            have hA := block_below A5 hv (by omega)
            have hg := g5.below hv
            have hXs : V5.heap.size < (V5.alloc (.cells #[.string zt, .bool false, .int .i64 0, .int .i64 zp] 60)).heap.size := by simp
            have hVX : D + 1 ≤ V5.heap.size := by omega
            clear h5 hT5 D5 A5 g5 hs5 hv hDs
            generalize hXX : V5.heap.size = XX at hX hXs hVX HGL ⊢
            clear hXX
            generalize V5.alloc (.cells #[.string zt, .bool false, .int .i64 0, .int .i64 zp] 60) = V6 at hX hR hT hD hA hg hXs ⊢
            have hDs : D + 1 ≤ V6.heap.size := by omega
            have hXa : XX ≠ a := by omega
            have HGX : Hid (∀ x, x = XX → ∀ b, (False ∨ sv.ownBlock = some b) → b ≠ x) := Lib.hid (fun x hx b hb => by have h1 := HGL.out b hb; omega)
            go_upto_region 21 with fail
            have HNow2 := Lib.hid (HNow.out hm1 _ hR)
            go_upto_region 22 with (first | (go_at_call 56; (with_reducible refine HNow2.out.mono ?_); rintro e V7 ⟨rfl, hw7⟩))
            have hv := hw7.alloc hw7.size (.cells #[.int .i64 yk, .string yt, .int .i64 yp] 42)
            have hN := heap_made V7 #[.int .i64 yk, .string yt, .int .i64 yp] 42 _ rfl
            replace hR := hR.ahead hv
            replace hT := hT.far (hv.mono hT.size)
            replace hD := block_below hD hv (by omega)
            replace hA := block_below hA hv (by omega)
            replace hg := hg.below hv
            replace hDs := Nat.le_trans hDs hv.size
            replace hX := block_below hX hv (by omega)
            have hNX : XX < V7.heap.size := by have := hw7.size; omega
            have hNs : V7.heap.size < (V7.alloc (.cells #[.int .i64 yk, .string yt, .int .i64 yp] 42)).heap.size := by simp
            clear HNow2 hw7 hv
            generalize hNN : V7.heap.size = NN at hN hNX hNs ⊢
            clear hNN
            generalize V7.alloc (.cells #[.int .i64 yk, .string yt, .int .i64 yp] 42) = V8 at hX hR hT hD hA hg hDs hN hNs ⊢
            have hNa : NN ≠ a := by omega
            replace HTk := Lib.hid (HTk.out hm1)
            replace HNum := Lib.hid (HNum.out hm1)
            obtain ⟨nX, lX, mX, pX⟩ := X
            have HXX : Hid ((⟨nX, lX, mX, pX⟩ : Sm) = if decide (kd = 1 ∧ zk = 1 ∧ yk = 3) = true then ⟨zt, false, (rdNum yt : Nat), zp⟩ else ⟨zt, false, 0, zp⟩) := HDX
            clear HDX
            generalize hnb : decide (kd = 1 ∧ zk = 1 ∧ yk = 3) = nb at HXX HDN
            have HNB := Lib.hid hnb
            clear hnb
            go_cut [92] from 81 to 92 (fun x92 wx => x92 = .bool nb ∧ RfAt w0 wx a wv m2 (-1) ∧ Turns (only a) w wx ∧ wx.heap[D]? = some (.cells #[.int .i64 kd, .string ⟨#[]⟩, sv, .int .i64 xp] 65 (0, 0)) ∧ wx.heap[A]? = some (.cells #[.int .i64 0, .string ⟨#[]⟩, .slice none 0 0, .int .i64 0] 65 (0, 0)) ∧ D + 1 ≤ wx.heap.size ∧ GrowL (D + 1) 60 4 smR (fun _ => False) wx sv ys acc ∧ wx.heap[XX]? = some (.cells #[.string zt, .bool false, .int .i64 0, .int .i64 zp] 60 (0, 0)) ∧ wx.heap[NN]? = some (.cells #[.int .i64 yk, .string yt, .int .i64 yp] 42 (0, 0)))
            case first =>
             have hNF : nb = false := by rw [← HNB.out]; have := H1F.out; simp [this]
             subst hNF
             have e2 := HDN.out
             rw [if_neg (by decide)] at e2
             have e3 := Lib.hid e2
             clear e2
             have x1 : V8.cell? ⟨XX, 1, none⟩ = some (.bool false) := cell_of_row _ _ 1 _ _ _ hX
             have d08 : V8.cell? ⟨D, 0, none⟩ = some (.int .i64 kd) := cell_of_row _ _ 0 _ _ _ hD
             have hb1 : (kd == 1) = false := by have := H1F.out; simp [this]
             go_wp2_with fail
             go_meet
             case rel => exact ⟨by simp, by rw [e3.out]; exact hR, hT, hD, hA, hDs, hg, hX, hN⟩
            case rest =>
             clear hR hT hD hA hg hX hDs HTk HDN hN
             obtain ⟨rfl, hR, hT, hD, hA, hDs, hg, hX, hN⟩ := hcut
             rename World => V8
             have hXs8 : XX < V8.heap.size := (Array.getElem?_eq_some_iff.1 hX).1
             go_upto_if 92 with fail
             go_cut [] from 93 to 96 (fun wx => RfAt w0 wx a wv m2 (-1) ∧ Turns (only a) w wx ∧ wx.heap[D]? = some (.cells #[.int .i64 kd, .string ⟨#[]⟩, sv, .int .i64 xp] 65 (0, 0)) ∧ wx.heap[A]? = some (.cells #[.int .i64 0, .string ⟨#[]⟩, .slice none 0 0, .int .i64 0] 65 (0, 0)) ∧ D + 1 ≤ wx.heap.size ∧ GrowL (D + 1) 60 4 smR (fun _ => False) wx sv ys acc ∧ wx.heap[XX]? = some (.cells #[.string nX, .bool lX, .int .i64 mX, .int .i64 pX] 60 (0, 0)))
             case first =>
              cases nb with
              | false =>
                have e1 := HXX.out
                rw [if_neg (by decide)] at e1
                cases e1
                go_wp2_with fail
                go_meet
                case rel => exact ⟨hR, hT, hD, hA, hDs, hg, hX⟩
              | true =>
                have e1 := HXX.out
                rw [if_pos rfl] at e1
                cases e1
                have h3 : kd = 1 ∧ zk = 1 ∧ yk = 3 := of_decide_eq_true HNB.out
                obtain ⟨hn5, hnd⟩ := HNum.out h3.2.2
                have HVal := Lib.hid (fun W => value_any yt W hn5 hnd)
                clear h3 hn5 hnd HNum
                obtain ⟨nn0, nn1, nn2, _⟩ := box3 hN
                have x2 : V8.cell? ⟨XX, 2, none⟩ = some (.int .i64 0) := cell_of_row _ _ 2 _ _ _ hX
                have xf := free_of_block (j := 2) hX
                go_wp2_with (first | (go_at_call 91; (with_reducible refine (HVal.out _).mono ?_); rintro e V11 ⟨rfl, rfl⟩))
                have hXD : XX ≠ D := by omega
                have hXA : XX ≠ A := by omega
                have q4 := fun (b : Nat) (hb : b ≠ XX) => Below.heap_setCell V8 ⟨XX, 2, none⟩ (.int .i64 (rdNum yt : Nat)) b hb
                have hXo : ∀ b, (False ∨ sv.ownBlock = some b) → b ≠ XX := HGX.out XX rfl
                go_meet
                case rel => exact ⟨hR.aside hXa (by omega) _, hT.setCell (p := ⟨XX, 2, none⟩) (.inr (show w.heap.size ≤ XX by omega)) _, (q4 D (Ne.symm hXD)).trans hD, (q4 A (Ne.symm hXA)).trans hA, by simp [World.setCell]; omega, hg.keep (fun b hb => q4 b (hXo b hb)), block_setCell hX⟩
             case rest =>
              clear hR hT hD hA hg hX hDs HXX hN HNum
              obtain ⟨hR, hT, hD, hA, hDs, hg, hX⟩ := hcut
              rename World => V9
              have hXs9 : XX < V9.heap.size := (Array.getElem?_eq_some_iff.1 hX).1
              have hown := hg.own
              have hob := fun g (h : sv.ownBlock = some g) => own_base hown (Nat.le_refl _) g h
              have hne : some D ≠ sv.ownBlock := fun h => by have := hob D h.symm; omega
              obtain ⟨u0, u1, u2, u3, _⟩ := box4 hX
              have d2 : V9.cell? ⟨D, 2, none⟩ = some sv := cell_of_row _ _ 2 _ _ _ hD
              have a2 := rdCell_alloc d2 (.cells #[.string nX, .bool lX, .int .i64 mX, .int .i64 pX] 60)
              have fr2 := free_of_block (j := 2) (heap_keep _ (.cells #[.string nX, .bool lX, .int .i64 mX, .int .i64 pX] 60) hD)
              obtain ⟨i0, hi, iz0, iz1, iz2⟩ := rd_info rdInfoSym
              have HH := Lib.hid (And.intro hR (And.intro hT (And.intro hD (And.intro hA (And.intro hg hDs)))))
              clear hR hT hA hX
              go_upto_region 25 with (first | (refine wpList_append_lies _ (by rfl) _ _ _ (by rfl) (D + 1) 60 i0 (.agg #[.string ByteArray.empty, .bool false, .int .i64 0, .int .i64 0]) 4 40 Tryz.underlying63 hi iz0 iz1 iz2 rfl (by omega) sv acc.length ys (by rfl) (hown.alloc _) ⟨V9.heap.size, 0, none⟩ 1 1 [.string nX, .bool lX, .int .i64 mX, .int .i64 pX] (by rfl) (by rfl) (rd_news V9 _ _) (by simp [Value.oneCell']) (by omega) (by unfold maxLen; omega) (by omega) (by simp; omega) (V9.heap.size + 1) (by simp) ?_; intro gg2 cap w9 hown9 hgrow9 hat hlt9; have f9 : w9.cell? ⟨D, 2, none⟩ = some sv := hgrow9.cell a2 hne; have r9 := (hgrow9.frozen_far ⟨D, 2, none⟩ (show D < (V9.alloc _).heap.size from by simp; omega) hne).trans fr2))
              obtain ⟨hR, hT, hD0, hA, hg0, hDs0⟩ := HH.out
              have k9 := (Below.refl V9.heap.size V9).alloc (Nat.le_refl _) (.cells #[.string nX, .bool lX, .int .i64 mX, .int .i64 pX] 60)
              have hpu := (hg0.below k9).box0 (j := 2) (x := (⟨nX, lX, mX, pX⟩ : Sm)) (cs := [.string nX, .bool lX, .int .i64 mX, .int .i64 pX]) (Below.refl _ _) hown9 hgrow9 (own_new hat (by simp)) rfl (fun X => show smR X _ ⟨nX, lX, mX, pX⟩ from rfl) (Nat.lt_succ_self D) (heap_keep _ _ hD0)
              have hq := hpu.2.2.1 w.heap.size (by omega)
              have hqD := hpu.2.2.1 D (Nat.le_refl _)
              have hR9 := (hR.ahead k9).far hq ha hlt
              have hT9 := (hT.far (k9.mono hT.size)).far hq
              have hA9 := (hqD.block A hAD).trans (heap_keep _ _ hA)
              have hs9 : D + 1 ≤ (w9.setCell ⟨D, 2, none⟩ (.slice (some ⟨gg2, 0, none⟩) (acc.length + 1) cap)).heap.size := by have := hqD.size; simp at this ⊢; omega
              have e0 : (w9.setCell ⟨D, 2, none⟩ (.slice (some ⟨gg2, 0, none⟩) (acc.length + 1) cap)).cell? ⟨D, 0, none⟩ = some (.int .i64 kd) := cell_of_row _ _ 0 _ _ _ hpu.2.1
              clear hg hD hDs d0 d2 a2 fr2 f9 r9 u0 u1 u2 u3 hR hT hD0 hA hg0 hDs0 k9 hq hqD hown hown9 hgrow9 hob hne HH
              have HE := Lib.hid (HS6.out H6.out)
              clear HS1 HS6
              go_wp2_with fail
              go_meet
              case rel => exact ⟨m2, _, _, _, hR9, hT9, hpu.2.1, hA9, hs9, hpu.1, HE, hDb.2, by omega, by simp; omega⟩
          | false =>
            obtain rfl : db = false := by rw [hdc]; rfl
            have HE := Lib.hid (HStop.out rfl)
            clear hdc HStop HBd HS1 HS6
            go_wp2_with (first | (go_at_call 55; (with_reducible refine hIs.out.mono ?_); rintro e V1 ⟨rfl, hv1⟩; have d01 := (hv1.cell (p := ⟨D, 0, none⟩) (World.block_lt_of_cell? _ _ d0)).trans d0) | (go_at_call 90; (with_reducible refine (hSy.out _ (hR.ahead hv1)).mono ?_); rintro e V5 hpost; rcases hpost with ⟨hsb, rfl, h5, ht5⟩ | ⟨hsb, rfl, h5, ht5⟩))
            · cases hsb
            have hv := hv1
            replace hR := hR.ahead hv
            replace hT := hT.far (hv.mono hT.size)
            replace hD := block_below hD hv (by omega)
            replace hA := block_below hA hv (by omega)
            replace hg := hg.below hv
            replace hDs := Nat.le_trans hDs hv.size
            have D5 := ht5.heap hD (show ¬ only a D from hDa)
            have A5 := ht5.heap hA (show ¬ only a A from hAa)
            have g5 := hg.keep (w' := V5) (fun b hb => by rcases hb with hb | hb; exact hb.elim; exact ht5.block b (hg.own.lt b hb).2 (fun e => by have := own_base hg.own (Nat.le_refl _) b hb; unfold only at e; omega))
            have hT5 := hT.trans ht5 (fun _ _ h => h)
            have hs5 := ht5.size
            have hv9 := (Below.refl V5.heap.size V5).alloc (Nat.le_refl _) (.cells #[.string ⟨#[]⟩, .bool false, .int .i64 0, .int .i64 0] 60 : Obj)
            go_meet
            case rel => exact ⟨m, sv, ys, acc, h5.ahead hv9, hT5.far (hv9.mono hT5.size), block_below D5 hv9 (by omega), block_below A5 hv9 (by omega), by have := hv9.size; omega, g5.below hv9, HE, hm, hnm, by omega⟩
      case rest =>
       clear hR hT hD hA D2 hDs
       obtain ⟨m, sv, ys, acc, hR, hT, hD, hA, hDs, hg, HE, hm, hnm, hal⟩ := hcut
       rename World => V
       obtain ⟨sa, sc, rfl⟩ := rd_slice hg.own
       have HF2 := Lib.hid (hg.firm (by omega))
       have HB2 : Hid (∀ b, (False ∨ (Value.slice sa acc.length sc).ownBlock = some b) → D + 1 ≤ b) := Lib.hid (fun b hb => hb.elim (fun h => h.elim) (fun h => own_base hg.own (Nat.le_refl _) b h))
       have dl : V.cell? ⟨D, 2, none⟩ = some (.slice sa acc.length sc) := cell_of_row _ _ 2 _ _ _ hD
       by_cases h0 : acc = []
       · have HRB : Hid (RES = .bad (L.drop m)) := Lib.hid (by rw [HQ.out, HE.out]; exact if_pos h0)
         have HPm := Lib.hid (HPB.out m hm HRB.out)
         have HFl := Lib.hid (fail_any HI.out hR hm (.inl rfl))
         have hl0 : acc.length = 0 := by rw [h0]; rfl
         have hle : (((acc.length : Nat) : Int) == 0) = true := by rw [hl0]; rfl
         rw [badOr_open] at HFl
         clear HE HQ hl0 HPA HPB hg h0
         go_upto_region 28 with (first | (go_at_call 59; (with_reducible refine HFl.out.mono ?_); rintro e V5 ⟨rfl, h5, ht5⟩))
         have D5 := ht5.heap hD (show ¬ only a D from hDa)
         have A5 := ht5.heap hA (show ¬ only a A from hAa)
         have hT5 := hT.trans ht5 (fun _ _ h => h)
         replace HF2 := Lib.hid (HF2.out.keep (w' := V5) (fun b hb => ht5.block b (HF2.out.1 b hb) (fun e => by have := HB2.out b hb; unfold only at e; omega)))
         clear hR hT hD hA ht5 dl
         have hR := h5
         have hT := hT5
         have hD := D5
         have hA := A5
         clear h5 hT5 D5 A5
         obtain ⟨d0, d1, d2, d3, e0, e1, e2, e3⟩ := box4 hD
         obtain ⟨a0, a1, a2, a3, g0, g1, g2, g3⟩ := box4 hA
         have HR := Lib.hid (And.intro hR hT)
         clear hR hT
         go_wp2_with fail
         obtain ⟨hR, hT⟩ := HR.out
         have hRR := set4_row8 hA (.int .i64 kd) (.string ⟨#[]⟩) (.slice sa acc.length sc) (.int .i64 xp)
         exact bodyPost_ret (v := .agg #[.int .i64 kd, .string ⟨#[]⟩, .slice sa acc.length sc, .int .i64 xp]) (results_cell_row rfl _ _ A 65 #[.int .i64 kd, .string ⟨#[]⟩, .slice sa acc.length sc, .int .i64 xp] (0, 0) _ rfl hRR Tryz.underlying65 rfl declInfo8) rfl
          ⟨⟨kd, ⟨#[]⟩, acc, xp⟩, m, (wAt L m).place, sa, acc.length, sc, _, rfl, HF2.out.keep (fun b hb => by
           have hb1 := HB2.out b hb
           have hb2 : b ≠ A := by omega
           exact (Below.heap_setCell _ _ _ _ hb2).trans ((Below.heap_setCell _ _ _ _ hb2).trans ((Below.heap_setCell _ _ _ _ hb2).trans (Below.heap_setCell _ _ _ _ hb2)))), fun b hb => by have := HB2.out b hb; omega, hm, hR.aside4 hAa (by omega) _ _ _ _, hT.set4 (.inr (by omega)) _ _ _ _, .inr ⟨HPm.out.1, HPm.out.2.1, HPm.out.2.2⟩⟩
       · have HRO : Hid (RES = .ok ⟨kd, ⟨#[]⟩, acc, xp⟩ (L.drop m)) := Lib.hid (by rw [HQ.out, HE.out]; exact if_neg h0)
         have HPm := Lib.hid (HPA.out _ m HRO.out hnm)
         have hl1 : 0 < acc.length := List.length_pos_iff.2 h0
         have hle : (((acc.length : Nat) : Int) == 0) = false := by rw [beq_eq_false_iff_ne]; omega
         clear HE HQ h0 HPA HPB hg
         go_upto_region 28 with fail
         obtain ⟨d0, d1, d2, d3, e0, e1, e2, e3⟩ := box4 hD
         obtain ⟨a0, a1, a2, a3, g0, g1, g2, g3⟩ := box4 hA
         have HR := Lib.hid (And.intro hR hT)
         clear hR hT
         go_wp2_with fail
         obtain ⟨hR, hT⟩ := HR.out
         have hRR := set4_row8 hA (.int .i64 kd) (.string ⟨#[]⟩) (.slice sa acc.length sc) (.int .i64 xp)
         exact bodyPost_ret (v := .agg #[.int .i64 kd, .string ⟨#[]⟩, .slice sa acc.length sc, .int .i64 xp]) (results_cell_row rfl _ _ A 65 #[.int .i64 kd, .string ⟨#[]⟩, .slice sa acc.length sc, .int .i64 xp] (0, 0) _ rfl hRR Tryz.underlying65 rfl declInfo8) rfl
          ⟨⟨kd, ⟨#[]⟩, acc, xp⟩, m, (-1), sa, acc.length, sc, _, rfl, HF2.out.keep (fun b hb => by
           have hb1 := HB2.out b hb
           have hb2 : b ≠ A := by omega
           exact (Below.heap_setCell _ _ _ _ hb2).trans ((Below.heap_setCell _ _ _ _ hb2).trans ((Below.heap_setCell _ _ _ _ hb2).trans (Below.heap_setCell _ _ _ _ hb2)))), fun b hb => by have := HB2.out b hb; omega, hm, hR.aside4 hAa (by omega) _ _ _ _, hT.set4 (.inr (by omega)) _ _ _ _, .inl ⟨rfl, HPm.out⟩⟩
    · have hb6 : (kd == 6) = false := by simp [h6]
      have hb6n : (kd != 6) = true := by simp [h6]
      have hb0 : (kd == 0) = false := by simp [hK0]
      have H6 := Lib.hid h6
      have hKD := Lib.hid hkd
      have hKZ := Lib.hid hK0
      obtain ⟨⟨yk, yt, yp⟩, hy⟩ : ∃ y, wAt L (n + 1) = y := ⟨_, rfl⟩
      rw [hy] at HP HTg HNo HTa HFa HNx2 HPy
      simp only at HP HTg HNo HTa HFa HNx2 HPy
      have Hy := Lib.hid hy
      clear hy
      have d0 : V.cell? ⟨D, 0, none⟩ = some (.int .i64 kd) := cell_of_row _ _ 0 _ _ _ hD
      have HNo2 := Lib.hid (HNo.out _ hR)
      have hww : w.heap.size ≤ D := by omega
      by_cases h4 : yk = 4
      · have hn2' := HNx2.out h4
        have HQ : Hid (RES = if (rdSyms kd (L.drop (n + 2))).1 = [] then .bad (rdSyms kd (L.drop (n + 2))).2 else .ok ⟨kd, yt, (rdSyms kd (L.drop (n + 2))).1, xp⟩ (rdSyms kd (L.drop (n + 2))).2) := Lib.hid (by rw [HP.out, HTg.out, if_pos (show kd ≠ 6 ∧ yk = 4 from ⟨h6, h4⟩), if_neg (show ¬ (kd = 5 ∧ yk ≠ 4) from fun h => h.2 h4)])
        have HN2 := Lib.hid (show n + 2 < L.length ∧ n < n + 2 from ⟨hn2', by omega⟩)
        have hdt : decide (yk = 4) = true := by simp [h4]
        rw [hdt] at HTa
        simp only [if_true] at HTa
        clear h6 h4 HP HTg HFa HNx2 HPy hkd hK0 hn2' hdt HNo
        go_upto_region 14 with (first | (go_at_call 56; (with_reducible refine HNo2.out.mono ?_); rintro e V1 ⟨rfl, hw1⟩))
        have hv := hw1.alloc hw1.size (.cells #[.int .i64 yk, .string yt, .int .i64 yp] 42)
        have hN := heap_made V1 #[.int .i64 yk, .string yt, .int .i64 yp] 42 _ rfl
        replace hR := hR.ahead hv
        replace hT := hT.far (hv.mono hT.size)
        replace hD := block_below hD hv (by omega)
        replace hA := block_below hA hv (by omega)
        replace hDs := Nat.le_trans hDs hv.size
        have hNv := Nat.le_trans (show V.heap.size ≤ V1.heap.size from hw1.size) (Nat.le_refl _)
        clear hw1 hv HNo2 d0
        generalize hNN : V1.heap.size = NN at hN hNv ⊢
        clear hNN
        generalize V1.alloc (.cells #[.int .i64 yk, .string yt, .int .i64 yp] 42) = V2 at hR hT hD hA hDs hN ⊢
        have hNa : NN ≠ a := by omega
        have HTa2 := Lib.hid (HTa.out _ hR)
        clear HTa
        go_upto_region 15 with (first | (go_at_call 57; (with_reducible refine HTa2.out.mono ?_); rintro e V3 ⟨rfl, h3, ht3⟩))
        have N3 := ht3.heap hN (show ¬ only a NN from hNa)
        have D3 := ht3.heap hD (show ¬ only a D from hDa)
        have A3 := ht3.heap hA (show ¬ only a A from hAa)
        have hT3 := hT.trans ht3 (fun _ _ h => h)
        have hs3 := ht3.size
        obtain ⟨nn0, nn1, nn2, _⟩ := box3 N3
        have p1 : V3.cell? ⟨D, 1, none⟩ = some (.string ⟨#[]⟩) := cell_of_row _ _ 1 _ _ _ D3
        have pf := free_of_block (j := 1) D3
        clear hR hT hD hA hN ht3 HTa2
        go_upto_block 2 with fail
        have hR := h3.aside (j := 1) hDa (by omega) (.string yt)
        have hD := block_setCell (j := 1) (u := .string yt) D3
        simp only [Array.setIfInBounds, List.size_toArray, List.length_cons, List.length_nil] at hD
        have hT := hT3.setCell (p := ⟨D, 1, none⟩) (.inr hww) (.string yt)
        have hA := (Below.heap_setCell V3 ⟨D, 1, none⟩ (.string yt) A (show A ≠ D by omega)).trans A3
        have hDs4 : D + 1 ≤ (V3.setCell ⟨D, 1, none⟩ (.string yt)).heap.size := by simp [World.setCell]; omega
        clear h3 D3 A3 hT3 N3 nn0 nn1 nn2 p1 pf hs3 hDs
        have hDs := hDs4
        clear hDs4
        generalize V3.setCell ⟨D, 1, none⟩ (.string yt) = V4 at hR hD hT hA hDs ⊢
        generalize htg : yt = tg at hD HQ ⊢
        clear htg
        by_cases h5 : kd = 5
        · have hb5 : (kd == 5) = true := by simp [h5]
          have H1F : Hid (kd ≠ 1) := Lib.hid (by omega)
          have HLB : Hid ((decide (kd = 5) || decide (kd = 6)) = true) := Lib.hid (by simp [h5])
          clear h5
          have hn2 := HN2.out
          generalize n + 2 = q at hR hn2 HQ ⊢
          clear HN2
          have D2 : V4.cell? ⟨D, 2, none⟩ = some (.slice none 0 0) := cell_of_row _ _ 2 _ _ _ hD
          go_cut [] from 60 to 105 (fun wx => ∃ (m : Nat) (sv : Value) (ys : List Value) (acc : List Sm), RfAt w0 wx a wv m (-1) ∧ Turns (only a) w wx ∧ wx.heap[D]? = some (.cells #[.int .i64 kd, .string tg, sv, .int .i64 xp] 65 (0, 0)) ∧ wx.heap[A]? = some (.cells #[.int .i64 0, .string ⟨#[]⟩, .slice none 0 0, .int .i64 0] 65 (0, 0)) ∧ D + 1 ≤ wx.heap.size ∧ GrowL (D + 1) 60 4 smR (fun _ => False) wx sv ys acc ∧ Hid (rdSyms kd (L.drop q) = (acc, L.drop m)) ∧ m < L.length ∧ n < m ∧ acc.length ≤ 100000)
          case first =>
           go_wp2_with fail
           go_loopg [] L.length (fun gg V => ∃ (m : Nat) (sv : Value) (ys : List Value) (acc : List Sm), L.length ≤ m + gg ∧ RfAt w0 V a wv m (-1) ∧ Turns (only a) w V ∧ V.heap[D]? = some (.cells #[.int .i64 kd, .string tg, sv, .int .i64 xp] 65 (0, 0)) ∧ V.heap[A]? = some (.cells #[.int .i64 0, .string ⟨#[]⟩, .slice none 0 0, .int .i64 0] 65 (0, 0)) ∧ D + 1 ≤ V.heap.size ∧ GrowL (D + 1) 60 4 smR (fun _ => False) V sv ys acc ∧ Hid (SymsTo kd L q acc m) ∧ m < L.length ∧ n < m ∧ acc.length ≤ m)
           case atStart => exact ⟨q, _, [], [], by omega, hR, hT, hD, hA, hDs, GrowL.nil _ _ _ _ _, Lib.hid (SymsTo.none _ _ _), by omega, by omega, Nat.zero_le _⟩
           case round =>
            clear hR hT hD hA D2 hDs
            obtain ⟨m, sv, ys, acc, hgg, hR, hT, hD, hA, hDs, hg, HX2, hm, hnm, hal⟩ := hrel
            rename World => V
            have hIs := Lib.hid (is_any HI.out hR hm 2 ⟨#[]⟩)
            rw [isB_open] at hIs
            have hSy := Lib.hid (fun (X : World) (hX : RfAt w0 X a wv m (-1)) => symbol_any HI.out hX hm)
            have hdc := declares_sym kd (wAt L m)
            have HStop : Hid (declaresB kd (wAt L m) = false → rdSyms kd (L.drop q) = (acc, L.drop m)) := Lib.hid (fun h => HX2.out.stop (syms_stop hm h))
            have HBd : Hid (declaresB kd (wAt L m) = true → m < declN kd L m ∧ declN kd L m < L.length) := Lib.hid (fun h => declN_bd HI.out.ok hm h)
            have HS1 : Hid (declaresB kd (wAt L m) = true → kd ≠ 6 → SymsTo kd L q (acc ++ [declX kd L m]) (declN kd L m)) := Lib.hid (fun h h6 => HX2.out.step (syms_one hm h6 h))
            have HS6 : Hid (declaresB kd (wAt L m) = true → kd = 6 → rdSyms kd (L.drop q) = (acc ++ [declX kd L m], L.drop (declN kd L m))) := Lib.hid (fun h h6 => by subst h6; rw [declN_six, declX_six]; exact HX2.out.start hm h)
            have HNx : Hid (symB2 (wAt L m) = true → m + 1 < L.length) := Lib.hid (fun e => HI.out.ok.next hm (by unfold symB2 at e; simp only [decide_eq_true_eq] at e; omega))
            have HDN : Hid (declN kd L m = if decide (kd = 1 ∧ (wAt L m).kind = 1 ∧ (wAt L (m + 1)).kind = 3) = true then m + 2 else m + 1) := Lib.hid rfl
            have HDX : Hid (declX kd L m = if decide (kd = 1 ∧ (wAt L m).kind = 1 ∧ (wAt L (m + 1)).kind = 3) = true then smOf (wAt L m) (rdNum (wAt L (m + 1)).text : Nat) else smOf (wAt L m) 0) := Lib.hid rfl
            have HNow := Lib.hid (fun (h : m + 1 < L.length) (X : World) (hX : RfAt w0 X a wv (m + 1) (-1)) => now_any HI.out hX h)
            have HTk := Lib.hid (fun (h : m + 1 < L.length) (X : World) (hX : RfAt w0 X a wv (m + 1) (-1)) => rtake_any HI.out hX h 3 ⟨#[]⟩)
            have HNum : Hid (m + 1 < L.length → (wAt L (m + 1)).kind = 3 → (wAt L (m + 1)).text.size ≤ 5 ∧ ∀ c ∈ (wAt L (m + 1)).text.data.toList, 48 ≤ c.toNat ∧ c.toNat ≤ 57) := Lib.hid (fun h h3 => ⟨(HI.out.ok.num _ (wAt_mem h) h3).1, (HI.out.ok.num _ (wAt_mem h) h3).2.2.1⟩)
            clear HX2
            unfold SymGo at hSy
            simp only [symB3_open] at hSy
            unfold smOf at hSy HDX
            unfold Sm.agg at hSy
            unfold Wd.agg8 at HNow
            rw [isB_open] at HTk
            generalize declaresB kd (wAt L m) = db at hdc HStop HBd HS1 HS6
            have HZS : Hid ((wAt L m).kind = 2 → symB2 (wAt L m) = true) := Lib.hid (fun e => by unfold symB2; simp [e])
            have HZT : Hid (symB2 (wAt L m) = true → (wAt L m).kind = 1 ∨ (wAt L m).kind = 2) := Lib.hid (fun e => by unfold symB2 at e; simpa using e)
            generalize symB2 (wAt L m) = sb at hdc hSy HNx HZS HZT
            generalize declN kd L m = m2 at HBd HS1 HS6 HDN
            generalize declX kd L m = X at HS1 HS6 HDX
            generalize wAt L (m + 1) = y at HNow HTk HNum HDN HDX
            generalize wAt L m = z at hdc hIs hSy HDN HDX HZS HZT
            obtain ⟨zk, zt, zp⟩ := z
            obtain ⟨yk, yt, yp⟩ := y
            simp only at hdc hIs hSy HDN HDX HNow HTk HNum HZS HZT
            have d0 : V.cell? ⟨D, 0, none⟩ = some (.int .i64 kd) := cell_of_row _ _ 0 _ _ _ hD
            have hlb : Hid ((decide (kd = 5) || decide (kd = 6)) = true) := Lib.hid HLB.out
            rw [hlb.out] at hdc
            cases hz2 : decide (zk = 2) with
            | true =>
              rw [hz2] at hIs hdc hSy HDX
              have hdb : db = false := by rw [hdc]; cases sb <;> rfl
              subst hdb
              have HE := Lib.hid (HStop.out rfl)
              clear hdc HStop HBd HS1 HS6
              go_wp2_with (first | (go_at_call 55; (with_reducible refine hIs.out.mono ?_); rintro e V1 ⟨rfl, hv1⟩; have d01 := (hv1.cell (p := ⟨D, 0, none⟩) (World.block_lt_of_cell? _ _ d0)).trans d0))
              go_meet
              case rel => exact ⟨m, sv, ys, acc, hR.ahead hv1, hT.far (hv1.mono hT.size), block_below hD hv1 (by omega), block_below hA hv1 (by omega), Nat.le_trans hDs hv1.size, hg.below hv1, HE, hm, hnm, by omega⟩
            | false =>
              rw [hz2] at hIs hdc hSy HDX
              cases sb with
              | true =>
                obtain rfl : db = true := by rw [hdc]; rfl
                have HZ1 : Hid (zk = 1) := Lib.hid (by have h1 := HZT.out rfl; simp only [decide_eq_false_iff_not] at hz2; omega)
                clear hdc HStop
                have hm1 := HNx.out rfl
                have hDb := HBd.out rfl
                replace HS1 := Lib.hid (HS1.out rfl)
                replace HS6 := Lib.hid (HS6.out rfl)
                go_upto_region 20 with (first | (go_at_call 55; (with_reducible refine hIs.out.mono ?_); rintro e V1 ⟨rfl, hv1⟩; have d01 := (hv1.cell (p := ⟨D, 0, none⟩) (World.block_lt_of_cell? _ _ d0)).trans d0) | (go_at_call 90; (with_reducible refine (hSy.out _ (hR.ahead hv1)).mono ?_); rintro e V5 hpost; rcases hpost with ⟨hsb, rfl, h5, ht5⟩ | ⟨hsb, rfl, h5, ht5⟩))
                rotate_left 1
                · cases hsb
                clear hsb
                have hv := hv1
                replace hR := hR.ahead hv
                replace hT := hT.far (hv.mono hT.size)
                replace hD := block_below hD hv (by omega)
                replace hA := block_below hA hv (by omega)
                replace hg := hg.below hv
                replace hDs := Nat.le_trans hDs hv.size
                clear hv hIs hSy
                have D5 := ht5.heap hD (show ¬ only a D from hDa)
                have A5 := ht5.heap hA (show ¬ only a A from hAa)
                have HGL : Hid (∀ b, (False ∨ sv.ownBlock = some b) → b < V5.heap.size) := Lib.hid (fun b hb => Nat.lt_of_lt_of_le (hg.lt b hb) ht5.size)
                have g5 := hg.keep (w' := V5) (fun b hb => by rcases hb with hb | hb; exact hb.elim; exact ht5.block b (hg.own.lt b hb).2 (fun e => by have := own_base hg.own (Nat.le_refl _) b hb; unfold only at e; omega))
                have hT5 := hT.trans ht5 (fun _ _ h => h)
                have hs5 := ht5.size
                clear hR hT hD hA hg ht5
                have hv := (Below.refl V5.heap.size V5).alloc (Nat.le_refl _) (.cells #[.string zt, .bool false, .int .i64 0, .int .i64 zp] 60)
                have hX := heap_made V5 #[.string zt, .bool false, .int .i64 0, .int .i64 zp] 60 _ rfl
                have hR := h5.ahead hv
                have hT := hT5.far (hv.mono hT5.size)
                have hD := block_below D5 hv (by omega)
                have hA := block_below A5 hv (by omega)
                have hg := g5.below hv
                have hXs : V5.heap.size < (V5.alloc (.cells #[.string zt, .bool false, .int .i64 0, .int .i64 zp] 60)).heap.size := by simp
                have hVX : D + 1 ≤ V5.heap.size := by omega
                clear h5 hT5 D5 A5 g5 hs5 hv hDs
                generalize hXX : V5.heap.size = XX at hX hXs hVX HGL ⊢
                clear hXX
                generalize V5.alloc (.cells #[.string zt, .bool false, .int .i64 0, .int .i64 zp] 60) = V6 at hX hR hT hD hA hg hXs ⊢
                have hDs : D + 1 ≤ V6.heap.size := by omega
                have hXa : XX ≠ a := by omega
                have HGX : Hid (∀ x, x = XX → ∀ b, (False ∨ sv.ownBlock = some b) → b ≠ x) := Lib.hid (fun x hx b hb => by have h1 := HGL.out b hb; omega)
                go_upto_region 21 with fail
                have HNow2 := Lib.hid (HNow.out hm1 _ hR)
                go_upto_region 22 with (first | (go_at_call 56; (with_reducible refine HNow2.out.mono ?_); rintro e V7 ⟨rfl, hw7⟩))
                have hv := hw7.alloc hw7.size (.cells #[.int .i64 yk, .string yt, .int .i64 yp] 42)
                have hN := heap_made V7 #[.int .i64 yk, .string yt, .int .i64 yp] 42 _ rfl
                replace hR := hR.ahead hv
                replace hT := hT.far (hv.mono hT.size)
                replace hD := block_below hD hv (by omega)
                replace hA := block_below hA hv (by omega)
                replace hg := hg.below hv
                replace hDs := Nat.le_trans hDs hv.size
                replace hX := block_below hX hv (by omega)
                have hNX : XX < V7.heap.size := by have := hw7.size; omega
                have hNs : V7.heap.size < (V7.alloc (.cells #[.int .i64 yk, .string yt, .int .i64 yp] 42)).heap.size := by simp
                clear HNow2 hw7 hv
                generalize hNN : V7.heap.size = NN at hN hNX hNs ⊢
                clear hNN
                generalize V7.alloc (.cells #[.int .i64 yk, .string yt, .int .i64 yp] 42) = V8 at hX hR hT hD hA hg hDs hN hNs ⊢
                have hNa : NN ≠ a := by omega
                replace HTk := Lib.hid (HTk.out hm1)
                replace HNum := Lib.hid (HNum.out hm1)
                obtain ⟨nX, lX, mX, pX⟩ := X
                have HXX : Hid ((⟨nX, lX, mX, pX⟩ : Sm) = if decide (kd = 1 ∧ zk = 1 ∧ yk = 3) = true then ⟨zt, false, (rdNum yt : Nat), zp⟩ else ⟨zt, false, 0, zp⟩) := HDX
                clear HDX
                generalize hnb : decide (kd = 1 ∧ zk = 1 ∧ yk = 3) = nb at HXX HDN
                have HNB := Lib.hid hnb
                clear hnb
                go_cut [92] from 81 to 92 (fun x92 wx => x92 = .bool nb ∧ RfAt w0 wx a wv m2 (-1) ∧ Turns (only a) w wx ∧ wx.heap[D]? = some (.cells #[.int .i64 kd, .string tg, sv, .int .i64 xp] 65 (0, 0)) ∧ wx.heap[A]? = some (.cells #[.int .i64 0, .string ⟨#[]⟩, .slice none 0 0, .int .i64 0] 65 (0, 0)) ∧ D + 1 ≤ wx.heap.size ∧ GrowL (D + 1) 60 4 smR (fun _ => False) wx sv ys acc ∧ wx.heap[XX]? = some (.cells #[.string zt, .bool false, .int .i64 0, .int .i64 zp] 60 (0, 0)) ∧ wx.heap[NN]? = some (.cells #[.int .i64 yk, .string yt, .int .i64 yp] 42 (0, 0)))
                case first =>
                 have hNF : nb = false := by rw [← HNB.out]; have := H1F.out; simp [this]
                 subst hNF
                 have e2 := HDN.out
                 rw [if_neg (by decide)] at e2
                 have e3 := Lib.hid e2
                 clear e2
                 have x1 : V8.cell? ⟨XX, 1, none⟩ = some (.bool false) := cell_of_row _ _ 1 _ _ _ hX
                 have d08 : V8.cell? ⟨D, 0, none⟩ = some (.int .i64 kd) := cell_of_row _ _ 0 _ _ _ hD
                 have hb1 : (kd == 1) = false := by have := H1F.out; simp [this]
                 go_wp2_with fail
                 go_meet
                 case rel => exact ⟨by simp, by rw [e3.out]; exact hR, hT, hD, hA, hDs, hg, hX, hN⟩
                case rest =>
                 clear hR hT hD hA hg hX hDs HTk HDN hN
                 obtain ⟨rfl, hR, hT, hD, hA, hDs, hg, hX, hN⟩ := hcut
                 rename World => V8
                 have hXs8 : XX < V8.heap.size := (Array.getElem?_eq_some_iff.1 hX).1
                 go_upto_if 92 with fail
                 go_cut [] from 93 to 96 (fun wx => RfAt w0 wx a wv m2 (-1) ∧ Turns (only a) w wx ∧ wx.heap[D]? = some (.cells #[.int .i64 kd, .string tg, sv, .int .i64 xp] 65 (0, 0)) ∧ wx.heap[A]? = some (.cells #[.int .i64 0, .string ⟨#[]⟩, .slice none 0 0, .int .i64 0] 65 (0, 0)) ∧ D + 1 ≤ wx.heap.size ∧ GrowL (D + 1) 60 4 smR (fun _ => False) wx sv ys acc ∧ wx.heap[XX]? = some (.cells #[.string nX, .bool lX, .int .i64 mX, .int .i64 pX] 60 (0, 0)))
                 case first =>
                  cases nb with
                  | false =>
                    have e1 := HXX.out
                    rw [if_neg (by decide)] at e1
                    cases e1
                    go_wp2_with fail
                    go_meet
                    case rel => exact ⟨hR, hT, hD, hA, hDs, hg, hX⟩
                  | true =>
                    have e1 := HXX.out
                    rw [if_pos rfl] at e1
                    cases e1
                    have h3 : kd = 1 ∧ zk = 1 ∧ yk = 3 := of_decide_eq_true HNB.out
                    obtain ⟨hn5, hnd⟩ := HNum.out h3.2.2
                    have HVal := Lib.hid (fun W => value_any yt W hn5 hnd)
                    clear h3 hn5 hnd HNum
                    obtain ⟨nn0, nn1, nn2, _⟩ := box3 hN
                    have x2 : V8.cell? ⟨XX, 2, none⟩ = some (.int .i64 0) := cell_of_row _ _ 2 _ _ _ hX
                    have xf := free_of_block (j := 2) hX
                    go_wp2_with (first | (go_at_call 91; (with_reducible refine (HVal.out _).mono ?_); rintro e V11 ⟨rfl, rfl⟩))
                    have hXD : XX ≠ D := by omega
                    have hXA : XX ≠ A := by omega
                    have q4 := fun (b : Nat) (hb : b ≠ XX) => Below.heap_setCell V8 ⟨XX, 2, none⟩ (.int .i64 (rdNum yt : Nat)) b hb
                    have hXo : ∀ b, (False ∨ sv.ownBlock = some b) → b ≠ XX := HGX.out XX rfl
                    go_meet
                    case rel => exact ⟨hR.aside hXa (by omega) _, hT.setCell (p := ⟨XX, 2, none⟩) (.inr (show w.heap.size ≤ XX by omega)) _, (q4 D (Ne.symm hXD)).trans hD, (q4 A (Ne.symm hXA)).trans hA, by simp [World.setCell]; omega, hg.keep (fun b hb => q4 b (hXo b hb)), block_setCell hX⟩
                 case rest =>
                  clear hR hT hD hA hg hX hDs HXX hN HNum
                  obtain ⟨hR, hT, hD, hA, hDs, hg, hX⟩ := hcut
                  rename World => V9
                  have hXs9 : XX < V9.heap.size := (Array.getElem?_eq_some_iff.1 hX).1
                  have hown := hg.own
                  have hob := fun g (h : sv.ownBlock = some g) => own_base hown (Nat.le_refl _) g h
                  have hne : some D ≠ sv.ownBlock := fun h => by have := hob D h.symm; omega
                  obtain ⟨u0, u1, u2, u3, _⟩ := box4 hX
                  have d2 : V9.cell? ⟨D, 2, none⟩ = some sv := cell_of_row _ _ 2 _ _ _ hD
                  have a2 := rdCell_alloc d2 (.cells #[.string nX, .bool lX, .int .i64 mX, .int .i64 pX] 60)
                  have fr2 := free_of_block (j := 2) (heap_keep _ (.cells #[.string nX, .bool lX, .int .i64 mX, .int .i64 pX] 60) hD)
                  obtain ⟨i0, hi, iz0, iz1, iz2⟩ := rd_info rdInfoSym
                  have HH := Lib.hid (And.intro hR (And.intro hT (And.intro hD (And.intro hA (And.intro hg hDs)))))
                  clear hR hT hA hX
                  go_upto_region 25 with (first | (refine wpList_append_lies _ (by rfl) _ _ _ (by rfl) (D + 1) 60 i0 (.agg #[.string ByteArray.empty, .bool false, .int .i64 0, .int .i64 0]) 4 40 Tryz.underlying63 hi iz0 iz1 iz2 rfl (by omega) sv acc.length ys (by rfl) (hown.alloc _) ⟨V9.heap.size, 0, none⟩ 1 1 [.string nX, .bool lX, .int .i64 mX, .int .i64 pX] (by rfl) (by rfl) (rd_news V9 _ _) (by simp [Value.oneCell']) (by omega) (by unfold maxLen; omega) (by omega) (by simp; omega) (V9.heap.size + 1) (by simp) ?_; intro gg2 cap w9 hown9 hgrow9 hat hlt9; have f9 : w9.cell? ⟨D, 2, none⟩ = some sv := hgrow9.cell a2 hne; have r9 := (hgrow9.frozen_far ⟨D, 2, none⟩ (show D < (V9.alloc _).heap.size from by simp; omega) hne).trans fr2))
                  obtain ⟨hR, hT, hD0, hA, hg0, hDs0⟩ := HH.out
                  have k9 := (Below.refl V9.heap.size V9).alloc (Nat.le_refl _) (.cells #[.string nX, .bool lX, .int .i64 mX, .int .i64 pX] 60)
                  have hpu := (hg0.below k9).box0 (j := 2) (x := (⟨nX, lX, mX, pX⟩ : Sm)) (cs := [.string nX, .bool lX, .int .i64 mX, .int .i64 pX]) (Below.refl _ _) hown9 hgrow9 (own_new hat (by simp)) rfl (fun X => show smR X _ ⟨nX, lX, mX, pX⟩ from rfl) (Nat.lt_succ_self D) (heap_keep _ _ hD0)
                  have hq := hpu.2.2.1 w.heap.size (by omega)
                  have hqD := hpu.2.2.1 D (Nat.le_refl _)
                  have hR9 := (hR.ahead k9).far hq ha hlt
                  have hT9 := (hT.far (k9.mono hT.size)).far hq
                  have hA9 := (hqD.block A hAD).trans (heap_keep _ _ hA)
                  have hs9 : D + 1 ≤ (w9.setCell ⟨D, 2, none⟩ (.slice (some ⟨gg2, 0, none⟩) (acc.length + 1) cap)).heap.size := by have := hqD.size; simp at this ⊢; omega
                  have e0 : (w9.setCell ⟨D, 2, none⟩ (.slice (some ⟨gg2, 0, none⟩) (acc.length + 1) cap)).cell? ⟨D, 0, none⟩ = some (.int .i64 kd) := cell_of_row _ _ 0 _ _ _ hpu.2.1
                  clear hg hD hDs d0 d2 a2 fr2 f9 r9 u0 u1 u2 u3 hR hT hD0 hA hg0 hDs0 k9 hq hqD hown hown9 hgrow9 hob hne HH
                  have HE := Lib.hid (HS1.out H6.out)
                  clear HS1 HS6
                  go_wp2_with fail
                  go_roundg (L.length - m2)
                  case rel => exact ⟨m2, _, _, _, by omega, hR9, hT9, hpu.2.1, hA9, hs9, hpu.1, HE, hDb.2, by omega, by simp; omega⟩
                  case measure => omega
              | false =>
                obtain rfl : db = false := by rw [hdc]; rfl
                have HE := Lib.hid (HStop.out rfl)
                clear hdc HStop HBd HS1 HS6
                go_wp2_with (first | (go_at_call 55; (with_reducible refine hIs.out.mono ?_); rintro e V1 ⟨rfl, hv1⟩; have d01 := (hv1.cell (p := ⟨D, 0, none⟩) (World.block_lt_of_cell? _ _ d0)).trans d0) | (go_at_call 90; (with_reducible refine (hSy.out _ (hR.ahead hv1)).mono ?_); rintro e V5 hpost; rcases hpost with ⟨hsb, rfl, h5, ht5⟩ | ⟨hsb, rfl, h5, ht5⟩))
                · cases hsb
                have hv := hv1
                replace hR := hR.ahead hv
                replace hT := hT.far (hv.mono hT.size)
                replace hD := block_below hD hv (by omega)
                replace hA := block_below hA hv (by omega)
                replace hg := hg.below hv
                replace hDs := Nat.le_trans hDs hv.size
                have D5 := ht5.heap hD (show ¬ only a D from hDa)
                have A5 := ht5.heap hA (show ¬ only a A from hAa)
                have g5 := hg.keep (w' := V5) (fun b hb => by rcases hb with hb | hb; exact hb.elim; exact ht5.block b (hg.own.lt b hb).2 (fun e => by have := own_base hg.own (Nat.le_refl _) b hb; unfold only at e; omega))
                have hT5 := hT.trans ht5 (fun _ _ h => h)
                have hs5 := ht5.size
                have hv9 := (Below.refl V5.heap.size V5).alloc (Nat.le_refl _) (.cells #[.string ⟨#[]⟩, .bool false, .int .i64 0, .int .i64 0] 60 : Obj)
                go_meet
                case rel => exact ⟨m, sv, ys, acc, h5.ahead hv9, hT5.far (hv9.mono hT5.size), block_below D5 hv9 (by omega), block_below A5 hv9 (by omega), by have := hv9.size; omega, g5.below hv9, HE, hm, hnm, by omega⟩
          case rest =>
           clear hR hT hD hA D2 hDs
           obtain ⟨m, sv, ys, acc, hR, hT, hD, hA, hDs, hg, HE, hm, hnm, hal⟩ := hcut
           rename World => V
           obtain ⟨sa, sc, rfl⟩ := rd_slice hg.own
           have HF2 := Lib.hid (hg.firm (by omega))
           have HB2 : Hid (∀ b, (False ∨ (Value.slice sa acc.length sc).ownBlock = some b) → D + 1 ≤ b) := Lib.hid (fun b hb => hb.elim (fun h => h.elim) (fun h => own_base hg.own (Nat.le_refl _) b h))
           have dl : V.cell? ⟨D, 2, none⟩ = some (.slice sa acc.length sc) := cell_of_row _ _ 2 _ _ _ hD
           by_cases h0 : acc = []
           · have HRB : Hid (RES = .bad (L.drop m)) := Lib.hid (by rw [HQ.out, HE.out]; exact if_pos h0)
             have HPm := Lib.hid (HPB.out m hm HRB.out)
             have HFl := Lib.hid (fail_any HI.out hR hm (.inl rfl))
             have hl0 : acc.length = 0 := by rw [h0]; rfl
             have hle : (((acc.length : Nat) : Int) == 0) = true := by rw [hl0]; rfl
             rw [badOr_open] at HFl
             clear HE HQ hl0 HPA HPB hg h0
             go_upto_region 28 with (first | (go_at_call 59; (with_reducible refine HFl.out.mono ?_); rintro e V5 ⟨rfl, h5, ht5⟩))
             have D5 := ht5.heap hD (show ¬ only a D from hDa)
             have A5 := ht5.heap hA (show ¬ only a A from hAa)
             have hT5 := hT.trans ht5 (fun _ _ h => h)
             replace HF2 := Lib.hid (HF2.out.keep (w' := V5) (fun b hb => ht5.block b (HF2.out.1 b hb) (fun e => by have := HB2.out b hb; unfold only at e; omega)))
             clear hR hT hD hA ht5 dl
             have hR := h5
             have hT := hT5
             have hD := D5
             have hA := A5
             clear h5 hT5 D5 A5
             obtain ⟨d0, d1, d2, d3, e0, e1, e2, e3⟩ := box4 hD
             obtain ⟨a0, a1, a2, a3, g0, g1, g2, g3⟩ := box4 hA
             have HR := Lib.hid (And.intro hR hT)
             clear hR hT
             go_wp2_with fail
             obtain ⟨hR, hT⟩ := HR.out
             have hRR := set4_row8 hA (.int .i64 kd) (.string tg) (.slice sa acc.length sc) (.int .i64 xp)
             exact bodyPost_ret (v := .agg #[.int .i64 kd, .string tg, .slice sa acc.length sc, .int .i64 xp]) (results_cell_row rfl _ _ A 65 #[.int .i64 kd, .string tg, .slice sa acc.length sc, .int .i64 xp] (0, 0) _ rfl hRR Tryz.underlying65 rfl declInfo8) rfl
              ⟨⟨kd, tg, acc, xp⟩, m, (wAt L m).place, sa, acc.length, sc, _, rfl, HF2.out.keep (fun b hb => by
               have hb1 := HB2.out b hb
               have hb2 : b ≠ A := by omega
               exact (Below.heap_setCell _ _ _ _ hb2).trans ((Below.heap_setCell _ _ _ _ hb2).trans ((Below.heap_setCell _ _ _ _ hb2).trans (Below.heap_setCell _ _ _ _ hb2)))), fun b hb => by have := HB2.out b hb; omega, hm, hR.aside4 hAa (by omega) _ _ _ _, hT.set4 (.inr (by omega)) _ _ _ _, .inr ⟨HPm.out.1, HPm.out.2.1, HPm.out.2.2⟩⟩
           · have HRO : Hid (RES = .ok ⟨kd, tg, acc, xp⟩ (L.drop m)) := Lib.hid (by rw [HQ.out, HE.out]; exact if_neg h0)
             have HPm := Lib.hid (HPA.out _ m HRO.out hnm)
             have hl1 : 0 < acc.length := List.length_pos_iff.2 h0
             have hle : (((acc.length : Nat) : Int) == 0) = false := by rw [beq_eq_false_iff_ne]; omega
             clear HE HQ h0 HPA HPB hg
             go_upto_region 28 with fail
             obtain ⟨d0, d1, d2, d3, e0, e1, e2, e3⟩ := box4 hD
             obtain ⟨a0, a1, a2, a3, g0, g1, g2, g3⟩ := box4 hA
             have HR := Lib.hid (And.intro hR hT)
             clear hR hT
             go_wp2_with fail
             obtain ⟨hR, hT⟩ := HR.out
             have hRR := set4_row8 hA (.int .i64 kd) (.string tg) (.slice sa acc.length sc) (.int .i64 xp)
             exact bodyPost_ret (v := .agg #[.int .i64 kd, .string tg, .slice sa acc.length sc, .int .i64 xp]) (results_cell_row rfl _ _ A 65 #[.int .i64 kd, .string tg, .slice sa acc.length sc, .int .i64 xp] (0, 0) _ rfl hRR Tryz.underlying65 rfl declInfo8) rfl
              ⟨⟨kd, tg, acc, xp⟩, m, (-1), sa, acc.length, sc, _, rfl, HF2.out.keep (fun b hb => by
               have hb1 := HB2.out b hb
               have hb2 : b ≠ A := by omega
               exact (Below.heap_setCell _ _ _ _ hb2).trans ((Below.heap_setCell _ _ _ _ hb2).trans ((Below.heap_setCell _ _ _ _ hb2).trans (Below.heap_setCell _ _ _ _ hb2)))), fun b hb => by have := HB2.out b hb; omega, hm, hR.aside4 hAa (by omega) _ _ _ _, hT.set4 (.inr (by omega)) _ _ _ _, .inl ⟨rfl, HPm.out⟩⟩
        · have hb5 : (kd == 5) = false := by simp [h5]
          have HLB : Hid ((decide (kd = 5) || decide (kd = 6)) = false) := Lib.hid (by have := H6.out; simp [h5, this])
          clear h5
          have hn2 := HN2.out
          generalize n + 2 = q at hR hn2 HQ ⊢
          clear HN2
          have D2 : V4.cell? ⟨D, 2, none⟩ = some (.slice none 0 0) := cell_of_row _ _ 2 _ _ _ hD
          go_cut [] from 60 to 105 (fun wx => ∃ (m : Nat) (sv : Value) (ys : List Value) (acc : List Sm), RfAt w0 wx a wv m (-1) ∧ Turns (only a) w wx ∧ wx.heap[D]? = some (.cells #[.int .i64 kd, .string tg, sv, .int .i64 xp] 65 (0, 0)) ∧ wx.heap[A]? = some (.cells #[.int .i64 0, .string ⟨#[]⟩, .slice none 0 0, .int .i64 0] 65 (0, 0)) ∧ D + 1 ≤ wx.heap.size ∧ GrowL (D + 1) 60 4 smR (fun _ => False) wx sv ys acc ∧ Hid (rdSyms kd (L.drop q) = (acc, L.drop m)) ∧ m < L.length ∧ n < m ∧ acc.length ≤ 100000)
          case first =>
           go_wp2_with fail
           go_loopg [] L.length (fun gg V => ∃ (m : Nat) (sv : Value) (ys : List Value) (acc : List Sm), L.length ≤ m + gg ∧ RfAt w0 V a wv m (-1) ∧ Turns (only a) w V ∧ V.heap[D]? = some (.cells #[.int .i64 kd, .string tg, sv, .int .i64 xp] 65 (0, 0)) ∧ V.heap[A]? = some (.cells #[.int .i64 0, .string ⟨#[]⟩, .slice none 0 0, .int .i64 0] 65 (0, 0)) ∧ D + 1 ≤ V.heap.size ∧ GrowL (D + 1) 60 4 smR (fun _ => False) V sv ys acc ∧ Hid (SymsTo kd L q acc m) ∧ m < L.length ∧ n < m ∧ acc.length ≤ m)
           case atStart => exact ⟨q, _, [], [], by omega, hR, hT, hD, hA, hDs, GrowL.nil _ _ _ _ _, Lib.hid (SymsTo.none _ _ _), by omega, by omega, Nat.zero_le _⟩
           case round =>
            clear hR hT hD hA D2 hDs
            obtain ⟨m, sv, ys, acc, hgg, hR, hT, hD, hA, hDs, hg, HX2, hm, hnm, hal⟩ := hrel
            rename World => V
            have hIs := Lib.hid (is_any HI.out hR hm 2 ⟨#[]⟩)
            rw [isB_open] at hIs
            have hSy := Lib.hid (fun (X : World) (hX : RfAt w0 X a wv m (-1)) => symbol_any HI.out hX hm)
            have hdc := declares_sym kd (wAt L m)
            have HStop : Hid (declaresB kd (wAt L m) = false → rdSyms kd (L.drop q) = (acc, L.drop m)) := Lib.hid (fun h => HX2.out.stop (syms_stop hm h))
            have HBd : Hid (declaresB kd (wAt L m) = true → m < declN kd L m ∧ declN kd L m < L.length) := Lib.hid (fun h => declN_bd HI.out.ok hm h)
            have HS1 : Hid (declaresB kd (wAt L m) = true → kd ≠ 6 → SymsTo kd L q (acc ++ [declX kd L m]) (declN kd L m)) := Lib.hid (fun h h6 => HX2.out.step (syms_one hm h6 h))
            have HS6 : Hid (declaresB kd (wAt L m) = true → kd = 6 → rdSyms kd (L.drop q) = (acc ++ [declX kd L m], L.drop (declN kd L m))) := Lib.hid (fun h h6 => by subst h6; rw [declN_six, declX_six]; exact HX2.out.start hm h)
            have HNx : Hid (symB2 (wAt L m) = true → m + 1 < L.length) := Lib.hid (fun e => HI.out.ok.next hm (by unfold symB2 at e; simp only [decide_eq_true_eq] at e; omega))
            have HDN : Hid (declN kd L m = if decide (kd = 1 ∧ (wAt L m).kind = 1 ∧ (wAt L (m + 1)).kind = 3) = true then m + 2 else m + 1) := Lib.hid rfl
            have HDX : Hid (declX kd L m = if decide (kd = 1 ∧ (wAt L m).kind = 1 ∧ (wAt L (m + 1)).kind = 3) = true then smOf (wAt L m) (rdNum (wAt L (m + 1)).text : Nat) else smOf (wAt L m) 0) := Lib.hid rfl
            have HNow := Lib.hid (fun (h : m + 1 < L.length) (X : World) (hX : RfAt w0 X a wv (m + 1) (-1)) => now_any HI.out hX h)
            have HTk := Lib.hid (fun (h : m + 1 < L.length) (X : World) (hX : RfAt w0 X a wv (m + 1) (-1)) => rtake_any HI.out hX h 3 ⟨#[]⟩)
            have HNum : Hid (m + 1 < L.length → (wAt L (m + 1)).kind = 3 → (wAt L (m + 1)).text.size ≤ 5 ∧ ∀ c ∈ (wAt L (m + 1)).text.data.toList, 48 ≤ c.toNat ∧ c.toNat ≤ 57) := Lib.hid (fun h h3 => ⟨(HI.out.ok.num _ (wAt_mem h) h3).1, (HI.out.ok.num _ (wAt_mem h) h3).2.2.1⟩)
            clear HX2
            unfold SymGo at hSy
            simp only [symB3_open] at hSy
            unfold smOf at hSy HDX
            unfold Sm.agg at hSy
            unfold Wd.agg8 at HNow
            rw [isB_open] at HTk
            generalize declaresB kd (wAt L m) = db at hdc HStop HBd HS1 HS6
            have HZS : Hid ((wAt L m).kind = 2 → symB2 (wAt L m) = true) := Lib.hid (fun e => by unfold symB2; simp [e])
            have HZT : Hid (symB2 (wAt L m) = true → (wAt L m).kind = 1 ∨ (wAt L m).kind = 2) := Lib.hid (fun e => by unfold symB2 at e; simpa using e)
            generalize symB2 (wAt L m) = sb at hdc hSy HNx HZS HZT
            generalize declN kd L m = m2 at HBd HS1 HS6 HDN
            generalize declX kd L m = X at HS1 HS6 HDX
            generalize wAt L (m + 1) = y at HNow HTk HNum HDN HDX
            generalize wAt L m = z at hdc hIs hSy HDN HDX HZS HZT
            obtain ⟨zk, zt, zp⟩ := z
            obtain ⟨yk, yt, yp⟩ := y
            simp only at hdc hIs hSy HDN HDX HNow HTk HNum HZS HZT
            have d0 : V.cell? ⟨D, 0, none⟩ = some (.int .i64 kd) := cell_of_row _ _ 0 _ _ _ hD
            have hlb : Hid ((decide (kd = 5) || decide (kd = 6)) = false) := Lib.hid HLB.out
            rw [hlb.out] at hdc
            cases hz2 : decide (zk = 2) with
            | true =>
              rw [hz2] at hIs hdc hSy HDX
              obtain rfl : sb = true := HZS.out (by simpa using hz2)
              obtain rfl : db = true := by rw [hdc]; rfl
              clear hdc HStop
              have hm1 := HNx.out rfl
              have hDb := HBd.out rfl
              replace HS1 := Lib.hid (HS1.out rfl)
              replace HS6 := Lib.hid (HS6.out rfl)
              go_upto_region 20 with (first | (go_at_call 55; (with_reducible refine hIs.out.mono ?_); rintro e V1 ⟨rfl, hv1⟩; have d01 := (hv1.cell (p := ⟨D, 0, none⟩) (World.block_lt_of_cell? _ _ d0)).trans d0) | (go_at_call 90; (with_reducible refine (hSy.out _ (hR.ahead hv1)).mono ?_); rintro e V5 hpost; rcases hpost with ⟨hsb, rfl, h5, ht5⟩ | ⟨hsb, rfl, h5, ht5⟩))
              rotate_left 1
              · cases hsb
              clear hsb
              have hv := hv1
              replace hR := hR.ahead hv
              replace hT := hT.far (hv.mono hT.size)
              replace hD := block_below hD hv (by omega)
              replace hA := block_below hA hv (by omega)
              replace hg := hg.below hv
              replace hDs := Nat.le_trans hDs hv.size
              clear hv hIs hSy
              have D5 := ht5.heap hD (show ¬ only a D from hDa)
              have A5 := ht5.heap hA (show ¬ only a A from hAa)
              have HGL : Hid (∀ b, (False ∨ sv.ownBlock = some b) → b < V5.heap.size) := Lib.hid (fun b hb => Nat.lt_of_lt_of_le (hg.lt b hb) ht5.size)
              have g5 := hg.keep (w' := V5) (fun b hb => by rcases hb with hb | hb; exact hb.elim; exact ht5.block b (hg.own.lt b hb).2 (fun e => by have := own_base hg.own (Nat.le_refl _) b hb; unfold only at e; omega))
              have hT5 := hT.trans ht5 (fun _ _ h => h)
              have hs5 := ht5.size
              clear hR hT hD hA hg ht5
              have hv := (Below.refl V5.heap.size V5).alloc (Nat.le_refl _) (.cells #[.string zt, .bool true, .int .i64 0, .int .i64 zp] 60)
              have hX := heap_made V5 #[.string zt, .bool true, .int .i64 0, .int .i64 zp] 60 _ rfl
              have hR := h5.ahead hv
              have hT := hT5.far (hv.mono hT5.size)
              have hD := block_below D5 hv (by omega)
              have hA := block_below A5 hv (by omega)
              have hg := g5.below hv
              have hXs : V5.heap.size < (V5.alloc (.cells #[.string zt, .bool true, .int .i64 0, .int .i64 zp] 60)).heap.size := by simp
              have hVX : D + 1 ≤ V5.heap.size := by omega
              clear h5 hT5 D5 A5 g5 hs5 hv hDs
              generalize hXX : V5.heap.size = XX at hX hXs hVX HGL ⊢
              clear hXX
              generalize V5.alloc (.cells #[.string zt, .bool true, .int .i64 0, .int .i64 zp] 60) = V6 at hX hR hT hD hA hg hXs ⊢
              have hDs : D + 1 ≤ V6.heap.size := by omega
              have hXa : XX ≠ a := by omega
              have HGX : Hid (∀ x, x = XX → ∀ b, (False ∨ sv.ownBlock = some b) → b ≠ x) := Lib.hid (fun x hx b hb => by have h1 := HGL.out b hb; omega)
              go_upto_region 21 with fail
              have HNow2 := Lib.hid (HNow.out hm1 _ hR)
              go_upto_region 22 with (first | (go_at_call 56; (with_reducible refine HNow2.out.mono ?_); rintro e V7 ⟨rfl, hw7⟩))
              have hv := hw7.alloc hw7.size (.cells #[.int .i64 yk, .string yt, .int .i64 yp] 42)
              have hN := heap_made V7 #[.int .i64 yk, .string yt, .int .i64 yp] 42 _ rfl
              replace hR := hR.ahead hv
              replace hT := hT.far (hv.mono hT.size)
              replace hD := block_below hD hv (by omega)
              replace hA := block_below hA hv (by omega)
              replace hg := hg.below hv
              replace hDs := Nat.le_trans hDs hv.size
              replace hX := block_below hX hv (by omega)
              have hNX : XX < V7.heap.size := by have := hw7.size; omega
              have hNs : V7.heap.size < (V7.alloc (.cells #[.int .i64 yk, .string yt, .int .i64 yp] 42)).heap.size := by simp
              clear HNow2 hw7 hv
              generalize hNN : V7.heap.size = NN at hN hNX hNs ⊢
              clear hNN
              generalize V7.alloc (.cells #[.int .i64 yk, .string yt, .int .i64 yp] 42) = V8 at hX hR hT hD hA hg hDs hN hNs ⊢
              have hNa : NN ≠ a := by omega
              replace HTk := Lib.hid (HTk.out hm1)
              replace HNum := Lib.hid (HNum.out hm1)
              obtain ⟨nX, lX, mX, pX⟩ := X
              have HXX : Hid ((⟨nX, lX, mX, pX⟩ : Sm) = if decide (kd = 1 ∧ zk = 1 ∧ yk = 3) = true then ⟨zt, true, (rdNum yt : Nat), zp⟩ else ⟨zt, true, 0, zp⟩) := HDX
              clear HDX
              generalize hnb : decide (kd = 1 ∧ zk = 1 ∧ yk = 3) = nb at HXX HDN
              have HNB := Lib.hid hnb
              clear hnb
              go_cut [92] from 81 to 92 (fun x92 wx => x92 = .bool nb ∧ RfAt w0 wx a wv m2 (-1) ∧ Turns (only a) w wx ∧ wx.heap[D]? = some (.cells #[.int .i64 kd, .string tg, sv, .int .i64 xp] 65 (0, 0)) ∧ wx.heap[A]? = some (.cells #[.int .i64 0, .string ⟨#[]⟩, .slice none 0 0, .int .i64 0] 65 (0, 0)) ∧ D + 1 ≤ wx.heap.size ∧ GrowL (D + 1) 60 4 smR (fun _ => False) wx sv ys acc ∧ wx.heap[XX]? = some (.cells #[.string zt, .bool true, .int .i64 0, .int .i64 zp] 60 (0, 0)) ∧ wx.heap[NN]? = some (.cells #[.int .i64 yk, .string yt, .int .i64 yp] 42 (0, 0)))
              case first =>
               by_cases hk1 : kd = 1
               · have hNF : nb = false := by rw [← HNB.out]; have h2 : zk = 2 := of_decide_eq_true hz2; simp [h2]
                 subst hNF
                 have e2 := HDN.out
                 rw [if_neg (by decide)] at e2
                 have e3 := Lib.hid e2
                 clear e2
                 have x1 : V8.cell? ⟨XX, 1, none⟩ = some (.bool true) := cell_of_row _ _ 1 _ _ _ hX
                 have d08 : V8.cell? ⟨D, 0, none⟩ = some (.int .i64 kd) := cell_of_row _ _ 0 _ _ _ hD
                 have hb1 : (kd == 1) = true := by simp [hk1]
                 clear hk1
                 go_wp2_with fail
                 go_meet
                 case rel => exact ⟨by simp, by rw [e3.out]; exact hR, hT, hD, hA, hDs, hg, hX, hN⟩
               · have hb1 : (kd == 1) = false := by simp [hk1]
                 have hNF : nb = false := by rw [← HNB.out]; simp [hk1]
                 subst hNF
                 have e2 := HDN.out
                 rw [if_neg (by decide)] at e2
                 have e3 := Lib.hid e2
                 clear e2
                 clear hk1
                 have x1 : V8.cell? ⟨XX, 1, none⟩ = some (.bool true) := cell_of_row _ _ 1 _ _ _ hX
                 have d08 : V8.cell? ⟨D, 0, none⟩ = some (.int .i64 kd) := cell_of_row _ _ 0 _ _ _ hD
                 go_wp2_with fail
                 go_meet
                 case rel => exact ⟨by simp, by rw [e3.out]; exact hR, hT, hD, hA, hDs, hg, hX, hN⟩
              case rest =>
               clear hR hT hD hA hg hX hDs HTk HDN hN
               obtain ⟨rfl, hR, hT, hD, hA, hDs, hg, hX, hN⟩ := hcut
               rename World => V8
               have hXs8 : XX < V8.heap.size := (Array.getElem?_eq_some_iff.1 hX).1
               go_upto_if 92 with fail
               go_cut [] from 93 to 96 (fun wx => RfAt w0 wx a wv m2 (-1) ∧ Turns (only a) w wx ∧ wx.heap[D]? = some (.cells #[.int .i64 kd, .string tg, sv, .int .i64 xp] 65 (0, 0)) ∧ wx.heap[A]? = some (.cells #[.int .i64 0, .string ⟨#[]⟩, .slice none 0 0, .int .i64 0] 65 (0, 0)) ∧ D + 1 ≤ wx.heap.size ∧ GrowL (D + 1) 60 4 smR (fun _ => False) wx sv ys acc ∧ wx.heap[XX]? = some (.cells #[.string nX, .bool lX, .int .i64 mX, .int .i64 pX] 60 (0, 0)))
               case first =>
                cases nb with
                | false =>
                  have e1 := HXX.out
                  rw [if_neg (by decide)] at e1
                  cases e1
                  go_wp2_with fail
                  go_meet
                  case rel => exact ⟨hR, hT, hD, hA, hDs, hg, hX⟩
                | true =>
                  have e1 := HXX.out
                  rw [if_pos rfl] at e1
                  cases e1
                  have h3 : kd = 1 ∧ zk = 1 ∧ yk = 3 := of_decide_eq_true HNB.out
                  obtain ⟨hn5, hnd⟩ := HNum.out h3.2.2
                  have HVal := Lib.hid (fun W => value_any yt W hn5 hnd)
                  clear h3 hn5 hnd HNum
                  obtain ⟨nn0, nn1, nn2, _⟩ := box3 hN
                  have x2 : V8.cell? ⟨XX, 2, none⟩ = some (.int .i64 0) := cell_of_row _ _ 2 _ _ _ hX
                  have xf := free_of_block (j := 2) hX
                  go_wp2_with (first | (go_at_call 91; (with_reducible refine (HVal.out _).mono ?_); rintro e V11 ⟨rfl, rfl⟩))
                  have hXD : XX ≠ D := by omega
                  have hXA : XX ≠ A := by omega
                  have q4 := fun (b : Nat) (hb : b ≠ XX) => Below.heap_setCell V8 ⟨XX, 2, none⟩ (.int .i64 (rdNum yt : Nat)) b hb
                  have hXo : ∀ b, (False ∨ sv.ownBlock = some b) → b ≠ XX := HGX.out XX rfl
                  go_meet
                  case rel => exact ⟨hR.aside hXa (by omega) _, hT.setCell (p := ⟨XX, 2, none⟩) (.inr (show w.heap.size ≤ XX by omega)) _, (q4 D (Ne.symm hXD)).trans hD, (q4 A (Ne.symm hXA)).trans hA, by simp [World.setCell]; omega, hg.keep (fun b hb => q4 b (hXo b hb)), block_setCell hX⟩
               case rest =>
                clear hR hT hD hA hg hX hDs HXX hN HNum
                obtain ⟨hR, hT, hD, hA, hDs, hg, hX⟩ := hcut
                rename World => V9
                have hXs9 : XX < V9.heap.size := (Array.getElem?_eq_some_iff.1 hX).1
                have hown := hg.own
                have hob := fun g (h : sv.ownBlock = some g) => own_base hown (Nat.le_refl _) g h
                have hne : some D ≠ sv.ownBlock := fun h => by have := hob D h.symm; omega
                obtain ⟨u0, u1, u2, u3, _⟩ := box4 hX
                have d2 : V9.cell? ⟨D, 2, none⟩ = some sv := cell_of_row _ _ 2 _ _ _ hD
                have a2 := rdCell_alloc d2 (.cells #[.string nX, .bool lX, .int .i64 mX, .int .i64 pX] 60)
                have fr2 := free_of_block (j := 2) (heap_keep _ (.cells #[.string nX, .bool lX, .int .i64 mX, .int .i64 pX] 60) hD)
                obtain ⟨i0, hi, iz0, iz1, iz2⟩ := rd_info rdInfoSym
                have HH := Lib.hid (And.intro hR (And.intro hT (And.intro hD (And.intro hA (And.intro hg hDs)))))
                clear hR hT hA hX
                go_upto_region 25 with (first | (refine wpList_append_lies _ (by rfl) _ _ _ (by rfl) (D + 1) 60 i0 (.agg #[.string ByteArray.empty, .bool false, .int .i64 0, .int .i64 0]) 4 40 Tryz.underlying63 hi iz0 iz1 iz2 rfl (by omega) sv acc.length ys (by rfl) (hown.alloc _) ⟨V9.heap.size, 0, none⟩ 1 1 [.string nX, .bool lX, .int .i64 mX, .int .i64 pX] (by rfl) (by rfl) (rd_news V9 _ _) (by simp [Value.oneCell']) (by omega) (by unfold maxLen; omega) (by omega) (by simp; omega) (V9.heap.size + 1) (by simp) ?_; intro gg2 cap w9 hown9 hgrow9 hat hlt9; have f9 : w9.cell? ⟨D, 2, none⟩ = some sv := hgrow9.cell a2 hne; have r9 := (hgrow9.frozen_far ⟨D, 2, none⟩ (show D < (V9.alloc _).heap.size from by simp; omega) hne).trans fr2))
                obtain ⟨hR, hT, hD0, hA, hg0, hDs0⟩ := HH.out
                have k9 := (Below.refl V9.heap.size V9).alloc (Nat.le_refl _) (.cells #[.string nX, .bool lX, .int .i64 mX, .int .i64 pX] 60)
                have hpu := (hg0.below k9).box0 (j := 2) (x := (⟨nX, lX, mX, pX⟩ : Sm)) (cs := [.string nX, .bool lX, .int .i64 mX, .int .i64 pX]) (Below.refl _ _) hown9 hgrow9 (own_new hat (by simp)) rfl (fun X => show smR X _ ⟨nX, lX, mX, pX⟩ from rfl) (Nat.lt_succ_self D) (heap_keep _ _ hD0)
                have hq := hpu.2.2.1 w.heap.size (by omega)
                have hqD := hpu.2.2.1 D (Nat.le_refl _)
                have hR9 := (hR.ahead k9).far hq ha hlt
                have hT9 := (hT.far (k9.mono hT.size)).far hq
                have hA9 := (hqD.block A hAD).trans (heap_keep _ _ hA)
                have hs9 : D + 1 ≤ (w9.setCell ⟨D, 2, none⟩ (.slice (some ⟨gg2, 0, none⟩) (acc.length + 1) cap)).heap.size := by have := hqD.size; simp at this ⊢; omega
                have e0 : (w9.setCell ⟨D, 2, none⟩ (.slice (some ⟨gg2, 0, none⟩) (acc.length + 1) cap)).cell? ⟨D, 0, none⟩ = some (.int .i64 kd) := cell_of_row _ _ 0 _ _ _ hpu.2.1
                clear hg hD hDs d0 d2 a2 fr2 f9 r9 u0 u1 u2 u3 hR hT hD0 hA hg0 hDs0 k9 hq hqD hown hown9 hgrow9 hob hne HH
                have HE := Lib.hid (HS1.out H6.out)
                clear HS1 HS6
                go_wp2_with fail
                go_roundg (L.length - m2)
                case rel => exact ⟨m2, _, _, _, by omega, hR9, hT9, hpu.2.1, hA9, hs9, hpu.1, HE, hDb.2, by omega, by simp; omega⟩
                case measure => omega
            | false =>
              rw [hz2] at hIs hdc hSy HDX
              cases sb with
              | true =>
                obtain rfl : db = true := by rw [hdc]; rfl
                have HZ1 : Hid (zk = 1) := Lib.hid (by have h1 := HZT.out rfl; simp only [decide_eq_false_iff_not] at hz2; omega)
                clear hdc HStop
                have hm1 := HNx.out rfl
                have hDb := HBd.out rfl
                replace HS1 := Lib.hid (HS1.out rfl)
                replace HS6 := Lib.hid (HS6.out rfl)
                go_upto_region 20 with (first | (go_at_call 55; (with_reducible refine hIs.out.mono ?_); rintro e V1 ⟨rfl, hv1⟩; have d01 := (hv1.cell (p := ⟨D, 0, none⟩) (World.block_lt_of_cell? _ _ d0)).trans d0) | (go_at_call 90; (with_reducible refine (hSy.out _ (hR.ahead hv1)).mono ?_); rintro e V5 hpost; rcases hpost with ⟨hsb, rfl, h5, ht5⟩ | ⟨hsb, rfl, h5, ht5⟩))
                rotate_left 1
                · cases hsb
                clear hsb
                have hv := hv1
                replace hR := hR.ahead hv
                replace hT := hT.far (hv.mono hT.size)
                replace hD := block_below hD hv (by omega)
                replace hA := block_below hA hv (by omega)
                replace hg := hg.below hv
                replace hDs := Nat.le_trans hDs hv.size
                clear hv hIs hSy
                have D5 := ht5.heap hD (show ¬ only a D from hDa)
                have A5 := ht5.heap hA (show ¬ only a A from hAa)
                have HGL : Hid (∀ b, (False ∨ sv.ownBlock = some b) → b < V5.heap.size) := Lib.hid (fun b hb => Nat.lt_of_lt_of_le (hg.lt b hb) ht5.size)
                have g5 := hg.keep (w' := V5) (fun b hb => by rcases hb with hb | hb; exact hb.elim; exact ht5.block b (hg.own.lt b hb).2 (fun e => by have := own_base hg.own (Nat.le_refl _) b hb; unfold only at e; omega))
                have hT5 := hT.trans ht5 (fun _ _ h => h)
                have hs5 := ht5.size
                clear hR hT hD hA hg ht5
                have hv := (Below.refl V5.heap.size V5).alloc (Nat.le_refl _) (.cells #[.string zt, .bool false, .int .i64 0, .int .i64 zp] 60)
                have hX := heap_made V5 #[.string zt, .bool false, .int .i64 0, .int .i64 zp] 60 _ rfl
                have hR := h5.ahead hv
                have hT := hT5.far (hv.mono hT5.size)
                have hD := block_below D5 hv (by omega)
                have hA := block_below A5 hv (by omega)
                have hg := g5.below hv
                have hXs : V5.heap.size < (V5.alloc (.cells #[.string zt, .bool false, .int .i64 0, .int .i64 zp] 60)).heap.size := by simp
                have hVX : D + 1 ≤ V5.heap.size := by omega
                clear h5 hT5 D5 A5 g5 hs5 hv hDs
                generalize hXX : V5.heap.size = XX at hX hXs hVX HGL ⊢
                clear hXX
                generalize V5.alloc (.cells #[.string zt, .bool false, .int .i64 0, .int .i64 zp] 60) = V6 at hX hR hT hD hA hg hXs ⊢
                have hDs : D + 1 ≤ V6.heap.size := by omega
                have hXa : XX ≠ a := by omega
                have HGX : Hid (∀ x, x = XX → ∀ b, (False ∨ sv.ownBlock = some b) → b ≠ x) := Lib.hid (fun x hx b hb => by have h1 := HGL.out b hb; omega)
                go_upto_region 21 with fail
                have HNow2 := Lib.hid (HNow.out hm1 _ hR)
                go_upto_region 22 with (first | (go_at_call 56; (with_reducible refine HNow2.out.mono ?_); rintro e V7 ⟨rfl, hw7⟩))
                have hv := hw7.alloc hw7.size (.cells #[.int .i64 yk, .string yt, .int .i64 yp] 42)
                have hN := heap_made V7 #[.int .i64 yk, .string yt, .int .i64 yp] 42 _ rfl
                replace hR := hR.ahead hv
                replace hT := hT.far (hv.mono hT.size)
                replace hD := block_below hD hv (by omega)
                replace hA := block_below hA hv (by omega)
                replace hg := hg.below hv
                replace hDs := Nat.le_trans hDs hv.size
                replace hX := block_below hX hv (by omega)
                have hNX : XX < V7.heap.size := by have := hw7.size; omega
                have hNs : V7.heap.size < (V7.alloc (.cells #[.int .i64 yk, .string yt, .int .i64 yp] 42)).heap.size := by simp
                clear HNow2 hw7 hv
                generalize hNN : V7.heap.size = NN at hN hNX hNs ⊢
                clear hNN
                generalize V7.alloc (.cells #[.int .i64 yk, .string yt, .int .i64 yp] 42) = V8 at hX hR hT hD hA hg hDs hN hNs ⊢
                have hNa : NN ≠ a := by omega
                replace HTk := Lib.hid (HTk.out hm1)
                replace HNum := Lib.hid (HNum.out hm1)
                obtain ⟨nX, lX, mX, pX⟩ := X
                have HXX : Hid ((⟨nX, lX, mX, pX⟩ : Sm) = if decide (kd = 1 ∧ zk = 1 ∧ yk = 3) = true then ⟨zt, false, (rdNum yt : Nat), zp⟩ else ⟨zt, false, 0, zp⟩) := HDX
                clear HDX
                generalize hnb : decide (kd = 1 ∧ zk = 1 ∧ yk = 3) = nb at HXX HDN
                have HNB := Lib.hid hnb
                clear hnb
                go_cut [92] from 81 to 92 (fun x92 wx => x92 = .bool nb ∧ RfAt w0 wx a wv m2 (-1) ∧ Turns (only a) w wx ∧ wx.heap[D]? = some (.cells #[.int .i64 kd, .string tg, sv, .int .i64 xp] 65 (0, 0)) ∧ wx.heap[A]? = some (.cells #[.int .i64 0, .string ⟨#[]⟩, .slice none 0 0, .int .i64 0] 65 (0, 0)) ∧ D + 1 ≤ wx.heap.size ∧ GrowL (D + 1) 60 4 smR (fun _ => False) wx sv ys acc ∧ wx.heap[XX]? = some (.cells #[.string zt, .bool false, .int .i64 0, .int .i64 zp] 60 (0, 0)) ∧ wx.heap[NN]? = some (.cells #[.int .i64 yk, .string yt, .int .i64 yp] 42 (0, 0)))
                case first =>
                 by_cases hk1 : kd = 1
                 · have hzk : zk = 1 := HZ1.out
                   have hb1 : (kd == 1) = true := by simp [hk1]
                   have hNy : decide (yk = 3) = nb := by rw [← HNB.out]; simp [hk1, hzk]
                   clear hk1 hzk
                   have x1 : V8.cell? ⟨XX, 1, none⟩ = some (.bool false) := cell_of_row _ _ 1 _ _ _ hX
                   have d08 : V8.cell? ⟨D, 0, none⟩ = some (.int .i64 kd) := cell_of_row _ _ 0 _ _ _ hD
                   have HTk2 := Lib.hid (HTk.out _ hR)
                   rw [hNy, ← HDN.out] at HTk2
                   clear hNy
                   go_wp2_with (first | (go_at_call 57; (with_reducible refine HTk2.out.mono ?_); rintro e V10 ⟨rfl, h10, ht10⟩))
                   have D10 := ht10.heap hD (show ¬ only a D from hDa)
                   have A10 := ht10.heap hA (show ¬ only a A from hAa)
                   have X10 := ht10.heap hX (show ¬ only a XX from hXa)
                   have N10 := ht10.heap hN (show ¬ only a NN from hNa)
                   have g10 := hg.keep (w' := V10) (fun b hb => by rcases hb with hb | hb; exact hb.elim; exact ht10.block b (hg.own.lt b hb).2 (fun e => by have := own_base hg.own (Nat.le_refl _) b hb; unfold only at e; omega))
                   have s10 := ht10.size
                   go_meet
                   case rel => exact ⟨by simp, h10, hT.trans ht10 (fun _ _ h => h), D10, A10, by omega, g10, X10, N10⟩
                 · have hb1 : (kd == 1) = false := by simp [hk1]
                   have hNF : nb = false := by rw [← HNB.out]; simp [hk1]
                   subst hNF
                   have e2 := HDN.out
                   rw [if_neg (by decide)] at e2
                   have e3 := Lib.hid e2
                   clear e2
                   clear hk1
                   have x1 : V8.cell? ⟨XX, 1, none⟩ = some (.bool false) := cell_of_row _ _ 1 _ _ _ hX
                   have d08 : V8.cell? ⟨D, 0, none⟩ = some (.int .i64 kd) := cell_of_row _ _ 0 _ _ _ hD
                   go_wp2_with fail
                   go_meet
                   case rel => exact ⟨by simp, by rw [e3.out]; exact hR, hT, hD, hA, hDs, hg, hX, hN⟩
                case rest =>
                 clear hR hT hD hA hg hX hDs HTk HDN hN
                 obtain ⟨rfl, hR, hT, hD, hA, hDs, hg, hX, hN⟩ := hcut
                 rename World => V8
                 have hXs8 : XX < V8.heap.size := (Array.getElem?_eq_some_iff.1 hX).1
                 go_upto_if 92 with fail
                 go_cut [] from 93 to 96 (fun wx => RfAt w0 wx a wv m2 (-1) ∧ Turns (only a) w wx ∧ wx.heap[D]? = some (.cells #[.int .i64 kd, .string tg, sv, .int .i64 xp] 65 (0, 0)) ∧ wx.heap[A]? = some (.cells #[.int .i64 0, .string ⟨#[]⟩, .slice none 0 0, .int .i64 0] 65 (0, 0)) ∧ D + 1 ≤ wx.heap.size ∧ GrowL (D + 1) 60 4 smR (fun _ => False) wx sv ys acc ∧ wx.heap[XX]? = some (.cells #[.string nX, .bool lX, .int .i64 mX, .int .i64 pX] 60 (0, 0)))
                 case first =>
                  cases nb with
                  | false =>
                    have e1 := HXX.out
                    rw [if_neg (by decide)] at e1
                    cases e1
                    go_wp2_with fail
                    go_meet
                    case rel => exact ⟨hR, hT, hD, hA, hDs, hg, hX⟩
                  | true =>
                    have e1 := HXX.out
                    rw [if_pos rfl] at e1
                    cases e1
                    have h3 : kd = 1 ∧ zk = 1 ∧ yk = 3 := of_decide_eq_true HNB.out
                    obtain ⟨hn5, hnd⟩ := HNum.out h3.2.2
                    have HVal := Lib.hid (fun W => value_any yt W hn5 hnd)
                    clear h3 hn5 hnd HNum
                    obtain ⟨nn0, nn1, nn2, _⟩ := box3 hN
                    have x2 : V8.cell? ⟨XX, 2, none⟩ = some (.int .i64 0) := cell_of_row _ _ 2 _ _ _ hX
                    have xf := free_of_block (j := 2) hX
                    go_wp2_with (first | (go_at_call 91; (with_reducible refine (HVal.out _).mono ?_); rintro e V11 ⟨rfl, rfl⟩))
                    have hXD : XX ≠ D := by omega
                    have hXA : XX ≠ A := by omega
                    have q4 := fun (b : Nat) (hb : b ≠ XX) => Below.heap_setCell V8 ⟨XX, 2, none⟩ (.int .i64 (rdNum yt : Nat)) b hb
                    have hXo : ∀ b, (False ∨ sv.ownBlock = some b) → b ≠ XX := HGX.out XX rfl
                    go_meet
                    case rel => exact ⟨hR.aside hXa (by omega) _, hT.setCell (p := ⟨XX, 2, none⟩) (.inr (show w.heap.size ≤ XX by omega)) _, (q4 D (Ne.symm hXD)).trans hD, (q4 A (Ne.symm hXA)).trans hA, by simp [World.setCell]; omega, hg.keep (fun b hb => q4 b (hXo b hb)), block_setCell hX⟩
                 case rest =>
                  clear hR hT hD hA hg hX hDs HXX hN HNum
                  obtain ⟨hR, hT, hD, hA, hDs, hg, hX⟩ := hcut
                  rename World => V9
                  have hXs9 : XX < V9.heap.size := (Array.getElem?_eq_some_iff.1 hX).1
                  have hown := hg.own
                  have hob := fun g (h : sv.ownBlock = some g) => own_base hown (Nat.le_refl _) g h
                  have hne : some D ≠ sv.ownBlock := fun h => by have := hob D h.symm; omega
                  obtain ⟨u0, u1, u2, u3, _⟩ := box4 hX
                  have d2 : V9.cell? ⟨D, 2, none⟩ = some sv := cell_of_row _ _ 2 _ _ _ hD
                  have a2 := rdCell_alloc d2 (.cells #[.string nX, .bool lX, .int .i64 mX, .int .i64 pX] 60)
                  have fr2 := free_of_block (j := 2) (heap_keep _ (.cells #[.string nX, .bool lX, .int .i64 mX, .int .i64 pX] 60) hD)
                  obtain ⟨i0, hi, iz0, iz1, iz2⟩ := rd_info rdInfoSym
                  have HH := Lib.hid (And.intro hR (And.intro hT (And.intro hD (And.intro hA (And.intro hg hDs)))))
                  clear hR hT hA hX
                  go_upto_region 25 with (first | (refine wpList_append_lies _ (by rfl) _ _ _ (by rfl) (D + 1) 60 i0 (.agg #[.string ByteArray.empty, .bool false, .int .i64 0, .int .i64 0]) 4 40 Tryz.underlying63 hi iz0 iz1 iz2 rfl (by omega) sv acc.length ys (by rfl) (hown.alloc _) ⟨V9.heap.size, 0, none⟩ 1 1 [.string nX, .bool lX, .int .i64 mX, .int .i64 pX] (by rfl) (by rfl) (rd_news V9 _ _) (by simp [Value.oneCell']) (by omega) (by unfold maxLen; omega) (by omega) (by simp; omega) (V9.heap.size + 1) (by simp) ?_; intro gg2 cap w9 hown9 hgrow9 hat hlt9; have f9 : w9.cell? ⟨D, 2, none⟩ = some sv := hgrow9.cell a2 hne; have r9 := (hgrow9.frozen_far ⟨D, 2, none⟩ (show D < (V9.alloc _).heap.size from by simp; omega) hne).trans fr2))
                  obtain ⟨hR, hT, hD0, hA, hg0, hDs0⟩ := HH.out
                  have k9 := (Below.refl V9.heap.size V9).alloc (Nat.le_refl _) (.cells #[.string nX, .bool lX, .int .i64 mX, .int .i64 pX] 60)
                  have hpu := (hg0.below k9).box0 (j := 2) (x := (⟨nX, lX, mX, pX⟩ : Sm)) (cs := [.string nX, .bool lX, .int .i64 mX, .int .i64 pX]) (Below.refl _ _) hown9 hgrow9 (own_new hat (by simp)) rfl (fun X => show smR X _ ⟨nX, lX, mX, pX⟩ from rfl) (Nat.lt_succ_self D) (heap_keep _ _ hD0)
                  have hq := hpu.2.2.1 w.heap.size (by omega)
                  have hqD := hpu.2.2.1 D (Nat.le_refl _)
                  have hR9 := (hR.ahead k9).far hq ha hlt
                  have hT9 := (hT.far (k9.mono hT.size)).far hq
                  have hA9 := (hqD.block A hAD).trans (heap_keep _ _ hA)
                  have hs9 : D + 1 ≤ (w9.setCell ⟨D, 2, none⟩ (.slice (some ⟨gg2, 0, none⟩) (acc.length + 1) cap)).heap.size := by have := hqD.size; simp at this ⊢; omega
                  have e0 : (w9.setCell ⟨D, 2, none⟩ (.slice (some ⟨gg2, 0, none⟩) (acc.length + 1) cap)).cell? ⟨D, 0, none⟩ = some (.int .i64 kd) := cell_of_row _ _ 0 _ _ _ hpu.2.1
                  clear hg hD hDs d0 d2 a2 fr2 f9 r9 u0 u1 u2 u3 hR hT hD0 hA hg0 hDs0 k9 hq hqD hown hown9 hgrow9 hob hne HH
                  have HE := Lib.hid (HS1.out H6.out)
                  clear HS1 HS6
                  go_wp2_with fail
                  go_roundg (L.length - m2)
                  case rel => exact ⟨m2, _, _, _, by omega, hR9, hT9, hpu.2.1, hA9, hs9, hpu.1, HE, hDb.2, by omega, by simp; omega⟩
                  case measure => omega
              | false =>
                obtain rfl : db = false := by rw [hdc]; rfl
                have HE := Lib.hid (HStop.out rfl)
                clear hdc HStop HBd HS1 HS6
                go_wp2_with (first | (go_at_call 55; (with_reducible refine hIs.out.mono ?_); rintro e V1 ⟨rfl, hv1⟩; have d01 := (hv1.cell (p := ⟨D, 0, none⟩) (World.block_lt_of_cell? _ _ d0)).trans d0) | (go_at_call 90; (with_reducible refine (hSy.out _ (hR.ahead hv1)).mono ?_); rintro e V5 hpost; rcases hpost with ⟨hsb, rfl, h5, ht5⟩ | ⟨hsb, rfl, h5, ht5⟩))
                · cases hsb
                have hv := hv1
                replace hR := hR.ahead hv
                replace hT := hT.far (hv.mono hT.size)
                replace hD := block_below hD hv (by omega)
                replace hA := block_below hA hv (by omega)
                replace hg := hg.below hv
                replace hDs := Nat.le_trans hDs hv.size
                have D5 := ht5.heap hD (show ¬ only a D from hDa)
                have A5 := ht5.heap hA (show ¬ only a A from hAa)
                have g5 := hg.keep (w' := V5) (fun b hb => by rcases hb with hb | hb; exact hb.elim; exact ht5.block b (hg.own.lt b hb).2 (fun e => by have := own_base hg.own (Nat.le_refl _) b hb; unfold only at e; omega))
                have hT5 := hT.trans ht5 (fun _ _ h => h)
                have hs5 := ht5.size
                have hv9 := (Below.refl V5.heap.size V5).alloc (Nat.le_refl _) (.cells #[.string ⟨#[]⟩, .bool false, .int .i64 0, .int .i64 0] 60 : Obj)
                go_meet
                case rel => exact ⟨m, sv, ys, acc, h5.ahead hv9, hT5.far (hv9.mono hT5.size), block_below D5 hv9 (by omega), block_below A5 hv9 (by omega), by have := hv9.size; omega, g5.below hv9, HE, hm, hnm, by omega⟩
          case rest =>
           clear hR hT hD hA D2 hDs
           obtain ⟨m, sv, ys, acc, hR, hT, hD, hA, hDs, hg, HE, hm, hnm, hal⟩ := hcut
           rename World => V
           obtain ⟨sa, sc, rfl⟩ := rd_slice hg.own
           have HF2 := Lib.hid (hg.firm (by omega))
           have HB2 : Hid (∀ b, (False ∨ (Value.slice sa acc.length sc).ownBlock = some b) → D + 1 ≤ b) := Lib.hid (fun b hb => hb.elim (fun h => h.elim) (fun h => own_base hg.own (Nat.le_refl _) b h))
           have dl : V.cell? ⟨D, 2, none⟩ = some (.slice sa acc.length sc) := cell_of_row _ _ 2 _ _ _ hD
           by_cases h0 : acc = []
           · have HRB : Hid (RES = .bad (L.drop m)) := Lib.hid (by rw [HQ.out, HE.out]; exact if_pos h0)
             have HPm := Lib.hid (HPB.out m hm HRB.out)
             have HFl := Lib.hid (fail_any HI.out hR hm (.inl rfl))
             have hl0 : acc.length = 0 := by rw [h0]; rfl
             have hle : (((acc.length : Nat) : Int) == 0) = true := by rw [hl0]; rfl
             rw [badOr_open] at HFl
             clear HE HQ hl0 HPA HPB hg h0
             go_upto_region 28 with (first | (go_at_call 59; (with_reducible refine HFl.out.mono ?_); rintro e V5 ⟨rfl, h5, ht5⟩))
             have D5 := ht5.heap hD (show ¬ only a D from hDa)
             have A5 := ht5.heap hA (show ¬ only a A from hAa)
             have hT5 := hT.trans ht5 (fun _ _ h => h)
             replace HF2 := Lib.hid (HF2.out.keep (w' := V5) (fun b hb => ht5.block b (HF2.out.1 b hb) (fun e => by have := HB2.out b hb; unfold only at e; omega)))
             clear hR hT hD hA ht5 dl
             have hR := h5
             have hT := hT5
             have hD := D5
             have hA := A5
             clear h5 hT5 D5 A5
             obtain ⟨d0, d1, d2, d3, e0, e1, e2, e3⟩ := box4 hD
             obtain ⟨a0, a1, a2, a3, g0, g1, g2, g3⟩ := box4 hA
             have HR := Lib.hid (And.intro hR hT)
             clear hR hT
             go_wp2_with fail
             obtain ⟨hR, hT⟩ := HR.out
             have hRR := set4_row8 hA (.int .i64 kd) (.string tg) (.slice sa acc.length sc) (.int .i64 xp)
             exact bodyPost_ret (v := .agg #[.int .i64 kd, .string tg, .slice sa acc.length sc, .int .i64 xp]) (results_cell_row rfl _ _ A 65 #[.int .i64 kd, .string tg, .slice sa acc.length sc, .int .i64 xp] (0, 0) _ rfl hRR Tryz.underlying65 rfl declInfo8) rfl
              ⟨⟨kd, tg, acc, xp⟩, m, (wAt L m).place, sa, acc.length, sc, _, rfl, HF2.out.keep (fun b hb => by
               have hb1 := HB2.out b hb
               have hb2 : b ≠ A := by omega
               exact (Below.heap_setCell _ _ _ _ hb2).trans ((Below.heap_setCell _ _ _ _ hb2).trans ((Below.heap_setCell _ _ _ _ hb2).trans (Below.heap_setCell _ _ _ _ hb2)))), fun b hb => by have := HB2.out b hb; omega, hm, hR.aside4 hAa (by omega) _ _ _ _, hT.set4 (.inr (by omega)) _ _ _ _, .inr ⟨HPm.out.1, HPm.out.2.1, HPm.out.2.2⟩⟩
           · have HRO : Hid (RES = .ok ⟨kd, tg, acc, xp⟩ (L.drop m)) := Lib.hid (by rw [HQ.out, HE.out]; exact if_neg h0)
             have HPm := Lib.hid (HPA.out _ m HRO.out hnm)
             have hl1 : 0 < acc.length := List.length_pos_iff.2 h0
             have hle : (((acc.length : Nat) : Int) == 0) = false := by rw [beq_eq_false_iff_ne]; omega
             clear HE HQ h0 HPA HPB hg
             go_upto_region 28 with fail
             obtain ⟨d0, d1, d2, d3, e0, e1, e2, e3⟩ := box4 hD
             obtain ⟨a0, a1, a2, a3, g0, g1, g2, g3⟩ := box4 hA
             have HR := Lib.hid (And.intro hR hT)
             clear hR hT
             go_wp2_with fail
             obtain ⟨hR, hT⟩ := HR.out
             have hRR := set4_row8 hA (.int .i64 kd) (.string tg) (.slice sa acc.length sc) (.int .i64 xp)
             exact bodyPost_ret (v := .agg #[.int .i64 kd, .string tg, .slice sa acc.length sc, .int .i64 xp]) (results_cell_row rfl _ _ A 65 #[.int .i64 kd, .string tg, .slice sa acc.length sc, .int .i64 xp] (0, 0) _ rfl hRR Tryz.underlying65 rfl declInfo8) rfl
              ⟨⟨kd, tg, acc, xp⟩, m, (-1), sa, acc.length, sc, _, rfl, HF2.out.keep (fun b hb => by
               have hb1 := HB2.out b hb
               have hb2 : b ≠ A := by omega
               exact (Below.heap_setCell _ _ _ _ hb2).trans ((Below.heap_setCell _ _ _ _ hb2).trans ((Below.heap_setCell _ _ _ _ hb2).trans (Below.heap_setCell _ _ _ _ hb2)))), fun b hb => by have := HB2.out b hb; omega, hm, hR.aside4 hAa (by omega) _ _ _ _, hT.set4 (.inr (by omega)) _ _ _ _, .inl ⟨rfl, HPm.out⟩⟩
      · have hdt : decide (yk = 4) = false := by simp [h4]
        rw [hdt] at HTa
        simp only [Bool.false_eq_true, if_false] at HTa
        by_cases h5 : kd = 5
        · have hb5 : (kd == 5) = true := by simp [h5]
          have HRB : Hid (RES = .bad (L.drop (n + 1))) := Lib.hid (by rw [HP.out]; exact if_pos ⟨h5, h4⟩)
          have HPm0 := HPB.out (n + 1) hn1 HRB.out
          rw [Hy.out] at HPm0
          have HPm := Lib.hid HPm0
          clear HPm0
          have hyp0 := HPy.out.1
          have hyp1 := HPy.out.2
          have HIs := Lib.hid (fun (X : World) (hX : RfAt w0 X a wv (n + 1) yp) => is_any HI.out hX hn1 2 ⟨#[]⟩)
          have HSy := Lib.hid (fun (X : World) (hX : RfAt w0 X a wv (n + 1) yp) => (symbol_any HI.out hX hn1).mono (fun e w' h => show e = .returned (.tuple #[.agg #[.string ⟨#[]⟩, .bool false, .int .i64 0, .int .i64 0], .bool false]) ∧ RfAt w0 w' a wv (n + 1) yp ∧ Turns (only a) X w' from by rcases h with ⟨h0, _⟩ | ⟨_, h1⟩; (rw [symB3_shut hyp0] at h0; cases h0); exact h1))
          have HF2 := Lib.hid (fun (X : World) (hX : RfAt w0 X a wv (n + 1) yp) => fail_any HI.out hX hn1 (.inr ⟨hyp0, hyp1⟩))
          rw [isB_shut hyp0] at HIs
          rw [badOr_shut hyp0] at HF2
          rw [badOr_open] at HFa
          clear h6 h4 h5 HP HTg HNx2 hkd hK0 hdt HNo HPA HPB
          go_upto_region 14 with (first | (go_at_call 56; (with_reducible refine HNo2.out.mono ?_); rintro e V1 ⟨rfl, hw1⟩))
          have hv := hw1.alloc hw1.size (.cells #[.int .i64 yk, .string yt, .int .i64 yp] 42)
          replace hR := hR.ahead hv
          replace hT := hT.far (hv.mono hT.size)
          replace hD := block_below hD hv (by omega)
          replace hA := block_below hA hv (by omega)
          replace hDs := Nat.le_trans hDs hv.size
          clear hw1 hv HNo2 d0
          generalize V1.alloc (.cells #[.int .i64 yk, .string yt, .int .i64 yp] 42) = V2 at hR hT hD hA hDs ⊢
          have HTa2 := Lib.hid (HTa.out _ hR)
          clear HTa
          go_upto_region 17 with (first | (go_at_call 57; (with_reducible refine HTa2.out.mono ?_); rintro e V3 ⟨rfl, h3, ht3⟩; have D3 := ht3.heap hD (show ¬ only a D from hDa); have d03 : V3.cell? ⟨D, 0, none⟩ = some (.int .i64 kd) := cell_of_row _ _ 0 _ _ _ D3))
          have A3 := ht3.heap hA (show ¬ only a A from hAa)
          have hT3 := hT.trans ht3 (fun _ _ h => h)
          have hs3 := ht3.size
          have HFa3 := Lib.hid (HFa.out _ h3)
          clear hR hT hD hA ht3 HTa2 HFa
          go_upto_block 2 with (first | (go_at_call 59; (with_reducible refine HFa3.out.mono ?_); rintro e V4 ⟨rfl, h4, ht4⟩))
          have D4 := ht4.heap D3 (show ¬ only a D from hDa)
          have A4 := ht4.heap A3 (show ¬ only a A from hAa)
          have hT4 := hT3.trans ht4 (fun _ _ h => h)
          have hs4 := ht4.size
          clear h3 D3 A3 hT3 ht4 d03 HFa3
          go_wp2_with fail
          go_loopg [] 1 (fun gg X => RfAt w0 X a wv (n + 1) yp ∧ Turns (only a) w X ∧ X.heap[D]? = some (.cells #[.int .i64 kd, .string ⟨#[]⟩, .slice none 0 0, .int .i64 xp] 65 (0, 0)) ∧ X.heap[A]? = some (.cells #[.int .i64 0, .string ⟨#[]⟩, .slice none 0 0, .int .i64 0] 65 (0, 0)) ∧ D + 1 ≤ X.heap.size)
          case atStart => exact ⟨h4, hT4, D4, A4, by omega⟩
          case round =>
           clear h4 hT4 D4 A4 hs3 hs4 hDs
           obtain ⟨hR, hT, hD, hA, hDs⟩ := hrel
           rename World => X
           have HIs2 := Lib.hid (HIs.out _ hR)
           go_upto_region 19 with (first | (go_at_call 55; (with_reducible refine HIs2.out.mono ?_); rintro e V5 ⟨rfl, hv⟩))
           replace hR := hR.ahead hv
           replace hT := hT.far (hv.mono hT.size)
           replace hD := block_below hD hv (by omega)
           replace hA := block_below hA hv (by omega)
           replace hDs := Nat.le_trans hDs hv.size
           have HSy2 := Lib.hid (HSy.out _ hR)
           clear hv HIs2
           go_upto_region 20 with (first | (go_at_call 90; (with_reducible refine HSy2.out.mono ?_); rintro e V6 ⟨rfl, h6, ht6⟩))
           have D6 := ht6.heap hD (show ¬ only a D from hDa)
           have A6 := ht6.heap hA (show ¬ only a A from hAa)
           have hT6 := hT.trans ht6 (fun _ _ h => h)
           have hs6 := ht6.size
           clear hR hT hD hA ht6 HSy2
           have hv := (Below.refl V6.heap.size V6).alloc (Nat.le_refl _) (.cells #[.string ⟨#[]⟩, .bool false, .int .i64 0, .int .i64 0] 60 : Obj)
           have h7 := h6.ahead hv
           have hT7 := hT6.far (hv.mono hT6.size)
           have D7 := block_below D6 hv (by omega)
           have A7 := block_below A6 hv (by omega)
           have hDs7 := Nat.le_trans hDs (Nat.le_trans hs6 hv.size)
           clear h6 hT6 D6 A6 hv hDs hs6
           generalize V6.alloc (.cells #[.string ⟨#[]⟩, .bool false, .int .i64 0, .int .i64 0] 60 : Obj) = V7 at h7 hT7 D7 A7 hDs7 ⊢
           have HF7 := Lib.hid (HF2.out _ h7)
           have dl : V7.cell? ⟨D, 2, none⟩ = some (.slice none 0 0) := cell_of_row _ _ 2 _ _ _ D7
           go_upto_region 28 with (first | (go_at_call 59; (with_reducible refine HF7.out.mono ?_); rintro e V8 ⟨rfl, h8, ht8⟩))
           have hD := ht8.heap D7 (show ¬ only a D from hDa)
           have hA := ht8.heap A7 (show ¬ only a A from hAa)
           have hR := h8
           have hT := hT7.trans ht8 (fun _ _ h => h)
           clear h7 hT7 D7 A7 h8 ht8 dl HF7
           obtain ⟨d0, d1, d2, d3, e0, e1, e2, e3⟩ := box4 hD
           obtain ⟨a0, a1, a2, a3, g0, g1, g2, g3⟩ := box4 hA
           have HR := Lib.hid (And.intro hR hT)
           clear hR hT
           go_wp2_with fail
           obtain ⟨hR, hT⟩ := HR.out
           have hRR := set4_row8 hA (.int .i64 kd) (.string ⟨#[]⟩) (.slice none 0 0) (.int .i64 xp)
           exact bodyPost_ret (v := .agg #[.int .i64 kd, .string ⟨#[]⟩, .slice none 0 0, .int .i64 xp]) (results_cell_row rfl _ _ A 65 #[.int .i64 kd, .string ⟨#[]⟩, .slice none 0 0, .int .i64 xp] (0, 0) _ rfl hRR Tryz.underlying65 rfl declInfo8) rfl
            ⟨⟨kd, ⟨#[]⟩, [], xp⟩, n + 1, yp, none, 0, 0, _, rfl, Firm.pure (fun X => ListV.nil 4 smR X), fun _ h => h.elim, hn1, hR.aside4 hAa (by omega) _ _ _ _, hT.set4 (.inr (by omega)) _ _ _ _, .inr ⟨HPm.out.1, HPm.out.2.1, HPm.out.2.2⟩⟩
        · have hb5 : (kd == 5) = false := by simp [h5]
          have HLB : Hid ((decide (kd = 5) || decide (kd = 6)) = false) := Lib.hid (by simp [h5, h6])
          have HQ : Hid (RES = if (rdSyms kd (L.drop (n + 1))).1 = [] then .bad (rdSyms kd (L.drop (n + 1))).2 else .ok ⟨kd, ByteArray.empty, (rdSyms kd (L.drop (n + 1))).1, xp⟩ (rdSyms kd (L.drop (n + 1))).2) := Lib.hid (by rw [HP.out, HTg.out, if_neg (show ¬ (kd ≠ 6 ∧ yk = 4) from fun h => h4 h.2), if_neg (show ¬ (kd = 5 ∧ yk ≠ 4) from fun h => h5 h.1)])
          have HN2 := Lib.hid (show n + 1 < L.length ∧ n < n + 1 from ⟨hn1, Nat.lt_succ_self _⟩)
          clear h6 h4 h5 HP HTg HFa HNx2 HPy hkd hK0 hdt HNo
          go_upto_region 14 with (first | (go_at_call 56; (with_reducible refine HNo2.out.mono ?_); rintro e V1 ⟨rfl, hw1⟩))
          have hv := hw1.alloc hw1.size (.cells #[.int .i64 yk, .string yt, .int .i64 yp] 42)
          replace hR := hR.ahead hv
          replace hT := hT.far (hv.mono hT.size)
          replace hD := block_below hD hv (by omega)
          replace hA := block_below hA hv (by omega)
          replace hDs := Nat.le_trans hDs hv.size
          clear hw1 hv HNo2 d0
          generalize V1.alloc (.cells #[.int .i64 yk, .string yt, .int .i64 yp] 42) = V2 at hR hT hD hA hDs ⊢
          have HTa2 := Lib.hid (HTa.out _ hR)
          clear HTa
          have d02 : V2.cell? ⟨D, 0, none⟩ = some (.int .i64 kd) := cell_of_row _ _ 0 _ _ _ hD
          go_upto_block 2 with (first | (go_at_call 57; (with_reducible refine HTa2.out.mono ?_); rintro e V3 ⟨rfl, h3, ht3⟩; have D3 := ht3.heap hD (show ¬ only a D from hDa); have d03 : V3.cell? ⟨D, 0, none⟩ = some (.int .i64 kd) := cell_of_row _ _ 0 _ _ _ D3))
          have A3 := ht3.heap hA (show ¬ only a A from hAa)
          have hT3 := hT.trans ht3 (fun _ _ h => h)
          have hs3 := ht3.size
          clear hR hT hD hA ht3 HTa2 d02 d03
          have hR := h3
          have hT := hT3
          have hD := D3
          have hA := A3
          replace hDs : D + 1 ≤ V3.heap.size := by omega
          clear h3 hT3 D3 A3 hs3
          have hn2 := HN2.out
          generalize n + 1 = q at hR hn2 HQ ⊢
          clear HN2
          have D2 : V3.cell? ⟨D, 2, none⟩ = some (.slice none 0 0) := cell_of_row _ _ 2 _ _ _ hD
          go_cut [] from 60 to 105 (fun wx => ∃ (m : Nat) (sv : Value) (ys : List Value) (acc : List Sm), RfAt w0 wx a wv m (-1) ∧ Turns (only a) w wx ∧ wx.heap[D]? = some (.cells #[.int .i64 kd, .string ⟨#[]⟩, sv, .int .i64 xp] 65 (0, 0)) ∧ wx.heap[A]? = some (.cells #[.int .i64 0, .string ⟨#[]⟩, .slice none 0 0, .int .i64 0] 65 (0, 0)) ∧ D + 1 ≤ wx.heap.size ∧ GrowL (D + 1) 60 4 smR (fun _ => False) wx sv ys acc ∧ Hid (rdSyms kd (L.drop q) = (acc, L.drop m)) ∧ m < L.length ∧ n < m ∧ acc.length ≤ 100000)
          case first =>
           go_wp2_with fail
           go_loopg [] L.length (fun gg V => ∃ (m : Nat) (sv : Value) (ys : List Value) (acc : List Sm), L.length ≤ m + gg ∧ RfAt w0 V a wv m (-1) ∧ Turns (only a) w V ∧ V.heap[D]? = some (.cells #[.int .i64 kd, .string ⟨#[]⟩, sv, .int .i64 xp] 65 (0, 0)) ∧ V.heap[A]? = some (.cells #[.int .i64 0, .string ⟨#[]⟩, .slice none 0 0, .int .i64 0] 65 (0, 0)) ∧ D + 1 ≤ V.heap.size ∧ GrowL (D + 1) 60 4 smR (fun _ => False) V sv ys acc ∧ Hid (SymsTo kd L q acc m) ∧ m < L.length ∧ n < m ∧ acc.length ≤ m)
           case atStart => exact ⟨q, _, [], [], by omega, hR, hT, hD, hA, hDs, GrowL.nil _ _ _ _ _, Lib.hid (SymsTo.none _ _ _), by omega, by omega, Nat.zero_le _⟩
           case round =>
            clear hR hT hD hA D2 hDs
            obtain ⟨m, sv, ys, acc, hgg, hR, hT, hD, hA, hDs, hg, HX2, hm, hnm, hal⟩ := hrel
            rename World => V
            have hIs := Lib.hid (is_any HI.out hR hm 2 ⟨#[]⟩)
            rw [isB_open] at hIs
            have hSy := Lib.hid (fun (X : World) (hX : RfAt w0 X a wv m (-1)) => symbol_any HI.out hX hm)
            have hdc := declares_sym kd (wAt L m)
            have HStop : Hid (declaresB kd (wAt L m) = false → rdSyms kd (L.drop q) = (acc, L.drop m)) := Lib.hid (fun h => HX2.out.stop (syms_stop hm h))
            have HBd : Hid (declaresB kd (wAt L m) = true → m < declN kd L m ∧ declN kd L m < L.length) := Lib.hid (fun h => declN_bd HI.out.ok hm h)
            have HS1 : Hid (declaresB kd (wAt L m) = true → kd ≠ 6 → SymsTo kd L q (acc ++ [declX kd L m]) (declN kd L m)) := Lib.hid (fun h h6 => HX2.out.step (syms_one hm h6 h))
            have HS6 : Hid (declaresB kd (wAt L m) = true → kd = 6 → rdSyms kd (L.drop q) = (acc ++ [declX kd L m], L.drop (declN kd L m))) := Lib.hid (fun h h6 => by subst h6; rw [declN_six, declX_six]; exact HX2.out.start hm h)
            have HNx : Hid (symB2 (wAt L m) = true → m + 1 < L.length) := Lib.hid (fun e => HI.out.ok.next hm (by unfold symB2 at e; simp only [decide_eq_true_eq] at e; omega))
            have HDN : Hid (declN kd L m = if decide (kd = 1 ∧ (wAt L m).kind = 1 ∧ (wAt L (m + 1)).kind = 3) = true then m + 2 else m + 1) := Lib.hid rfl
            have HDX : Hid (declX kd L m = if decide (kd = 1 ∧ (wAt L m).kind = 1 ∧ (wAt L (m + 1)).kind = 3) = true then smOf (wAt L m) (rdNum (wAt L (m + 1)).text : Nat) else smOf (wAt L m) 0) := Lib.hid rfl
            have HNow := Lib.hid (fun (h : m + 1 < L.length) (X : World) (hX : RfAt w0 X a wv (m + 1) (-1)) => now_any HI.out hX h)
            have HTk := Lib.hid (fun (h : m + 1 < L.length) (X : World) (hX : RfAt w0 X a wv (m + 1) (-1)) => rtake_any HI.out hX h 3 ⟨#[]⟩)
            have HNum : Hid (m + 1 < L.length → (wAt L (m + 1)).kind = 3 → (wAt L (m + 1)).text.size ≤ 5 ∧ ∀ c ∈ (wAt L (m + 1)).text.data.toList, 48 ≤ c.toNat ∧ c.toNat ≤ 57) := Lib.hid (fun h h3 => ⟨(HI.out.ok.num _ (wAt_mem h) h3).1, (HI.out.ok.num _ (wAt_mem h) h3).2.2.1⟩)
            clear HX2
            unfold SymGo at hSy
            simp only [symB3_open] at hSy
            unfold smOf at hSy HDX
            unfold Sm.agg at hSy
            unfold Wd.agg8 at HNow
            rw [isB_open] at HTk
            generalize declaresB kd (wAt L m) = db at hdc HStop HBd HS1 HS6
            have HZS : Hid ((wAt L m).kind = 2 → symB2 (wAt L m) = true) := Lib.hid (fun e => by unfold symB2; simp [e])
            have HZT : Hid (symB2 (wAt L m) = true → (wAt L m).kind = 1 ∨ (wAt L m).kind = 2) := Lib.hid (fun e => by unfold symB2 at e; simpa using e)
            generalize symB2 (wAt L m) = sb at hdc hSy HNx HZS HZT
            generalize declN kd L m = m2 at HBd HS1 HS6 HDN
            generalize declX kd L m = X at HS1 HS6 HDX
            generalize wAt L (m + 1) = y at HNow HTk HNum HDN HDX
            generalize wAt L m = z at hdc hIs hSy HDN HDX HZS HZT
            obtain ⟨zk, zt, zp⟩ := z
            obtain ⟨yk, yt, yp⟩ := y
            simp only at hdc hIs hSy HDN HDX HNow HTk HNum HZS HZT
            have d0 : V.cell? ⟨D, 0, none⟩ = some (.int .i64 kd) := cell_of_row _ _ 0 _ _ _ hD
            have hlb : Hid ((decide (kd = 5) || decide (kd = 6)) = false) := Lib.hid HLB.out
            rw [hlb.out] at hdc
            cases hz2 : decide (zk = 2) with
            | true =>
              rw [hz2] at hIs hdc hSy HDX
              obtain rfl : sb = true := HZS.out (by simpa using hz2)
              obtain rfl : db = true := by rw [hdc]; rfl
              clear hdc HStop
              have hm1 := HNx.out rfl
              have hDb := HBd.out rfl
              replace HS1 := Lib.hid (HS1.out rfl)
              replace HS6 := Lib.hid (HS6.out rfl)
              go_upto_region 20 with (first | (go_at_call 55; (with_reducible refine hIs.out.mono ?_); rintro e V1 ⟨rfl, hv1⟩; have d01 := (hv1.cell (p := ⟨D, 0, none⟩) (World.block_lt_of_cell? _ _ d0)).trans d0) | (go_at_call 90; (with_reducible refine (hSy.out _ (hR.ahead hv1)).mono ?_); rintro e V5 hpost; rcases hpost with ⟨hsb, rfl, h5, ht5⟩ | ⟨hsb, rfl, h5, ht5⟩))
              rotate_left 1
              · cases hsb
              clear hsb
              have hv := hv1
              replace hR := hR.ahead hv
              replace hT := hT.far (hv.mono hT.size)
              replace hD := block_below hD hv (by omega)
              replace hA := block_below hA hv (by omega)
              replace hg := hg.below hv
              replace hDs := Nat.le_trans hDs hv.size
              clear hv hIs hSy
              have D5 := ht5.heap hD (show ¬ only a D from hDa)
              have A5 := ht5.heap hA (show ¬ only a A from hAa)
              have HGL : Hid (∀ b, (False ∨ sv.ownBlock = some b) → b < V5.heap.size) := Lib.hid (fun b hb => Nat.lt_of_lt_of_le (hg.lt b hb) ht5.size)
              have g5 := hg.keep (w' := V5) (fun b hb => by rcases hb with hb | hb; exact hb.elim; exact ht5.block b (hg.own.lt b hb).2 (fun e => by have := own_base hg.own (Nat.le_refl _) b hb; unfold only at e; omega))
              have hT5 := hT.trans ht5 (fun _ _ h => h)
              have hs5 := ht5.size
              clear hR hT hD hA hg ht5
              have hv := (Below.refl V5.heap.size V5).alloc (Nat.le_refl _) (.cells #[.string zt, .bool true, .int .i64 0, .int .i64 zp] 60)
              have hX := heap_made V5 #[.string zt, .bool true, .int .i64 0, .int .i64 zp] 60 _ rfl
              have hR := h5.ahead hv
              have hT := hT5.far (hv.mono hT5.size)
              have hD := block_below D5 hv (by omega)
              have hA := block_below A5 hv (by omega)
              have hg := g5.below hv
              have hXs : V5.heap.size < (V5.alloc (.cells #[.string zt, .bool true, .int .i64 0, .int .i64 zp] 60)).heap.size := by simp
              have hVX : D + 1 ≤ V5.heap.size := by omega
              clear h5 hT5 D5 A5 g5 hs5 hv hDs
              generalize hXX : V5.heap.size = XX at hX hXs hVX HGL ⊢
              clear hXX
              generalize V5.alloc (.cells #[.string zt, .bool true, .int .i64 0, .int .i64 zp] 60) = V6 at hX hR hT hD hA hg hXs ⊢
              have hDs : D + 1 ≤ V6.heap.size := by omega
              have hXa : XX ≠ a := by omega
              have HGX : Hid (∀ x, x = XX → ∀ b, (False ∨ sv.ownBlock = some b) → b ≠ x) := Lib.hid (fun x hx b hb => by have h1 := HGL.out b hb; omega)
              go_upto_region 21 with fail
              have HNow2 := Lib.hid (HNow.out hm1 _ hR)
              go_upto_region 22 with (first | (go_at_call 56; (with_reducible refine HNow2.out.mono ?_); rintro e V7 ⟨rfl, hw7⟩))
              have hv := hw7.alloc hw7.size (.cells #[.int .i64 yk, .string yt, .int .i64 yp] 42)
              have hN := heap_made V7 #[.int .i64 yk, .string yt, .int .i64 yp] 42 _ rfl
              replace hR := hR.ahead hv
              replace hT := hT.far (hv.mono hT.size)
              replace hD := block_below hD hv (by omega)
              replace hA := block_below hA hv (by omega)
              replace hg := hg.below hv
              replace hDs := Nat.le_trans hDs hv.size
              replace hX := block_below hX hv (by omega)
              have hNX : XX < V7.heap.size := by have := hw7.size; omega
              have hNs : V7.heap.size < (V7.alloc (.cells #[.int .i64 yk, .string yt, .int .i64 yp] 42)).heap.size := by simp
              clear HNow2 hw7 hv
              generalize hNN : V7.heap.size = NN at hN hNX hNs ⊢
              clear hNN
              generalize V7.alloc (.cells #[.int .i64 yk, .string yt, .int .i64 yp] 42) = V8 at hX hR hT hD hA hg hDs hN hNs ⊢
              have hNa : NN ≠ a := by omega
              replace HTk := Lib.hid (HTk.out hm1)
              replace HNum := Lib.hid (HNum.out hm1)
              obtain ⟨nX, lX, mX, pX⟩ := X
              have HXX : Hid ((⟨nX, lX, mX, pX⟩ : Sm) = if decide (kd = 1 ∧ zk = 1 ∧ yk = 3) = true then ⟨zt, true, (rdNum yt : Nat), zp⟩ else ⟨zt, true, 0, zp⟩) := HDX
              clear HDX
              generalize hnb : decide (kd = 1 ∧ zk = 1 ∧ yk = 3) = nb at HXX HDN
              have HNB := Lib.hid hnb
              clear hnb
              go_cut [92] from 81 to 92 (fun x92 wx => x92 = .bool nb ∧ RfAt w0 wx a wv m2 (-1) ∧ Turns (only a) w wx ∧ wx.heap[D]? = some (.cells #[.int .i64 kd, .string ⟨#[]⟩, sv, .int .i64 xp] 65 (0, 0)) ∧ wx.heap[A]? = some (.cells #[.int .i64 0, .string ⟨#[]⟩, .slice none 0 0, .int .i64 0] 65 (0, 0)) ∧ D + 1 ≤ wx.heap.size ∧ GrowL (D + 1) 60 4 smR (fun _ => False) wx sv ys acc ∧ wx.heap[XX]? = some (.cells #[.string zt, .bool true, .int .i64 0, .int .i64 zp] 60 (0, 0)) ∧ wx.heap[NN]? = some (.cells #[.int .i64 yk, .string yt, .int .i64 yp] 42 (0, 0)))
              case first =>
               by_cases hk1 : kd = 1
               · have hNF : nb = false := by rw [← HNB.out]; have h2 : zk = 2 := of_decide_eq_true hz2; simp [h2]
                 subst hNF
                 have e2 := HDN.out
                 rw [if_neg (by decide)] at e2
                 have e3 := Lib.hid e2
                 clear e2
                 have x1 : V8.cell? ⟨XX, 1, none⟩ = some (.bool true) := cell_of_row _ _ 1 _ _ _ hX
                 have d08 : V8.cell? ⟨D, 0, none⟩ = some (.int .i64 kd) := cell_of_row _ _ 0 _ _ _ hD
                 have hb1 : (kd == 1) = true := by simp [hk1]
                 clear hk1
                 go_wp2_with fail
                 go_meet
                 case rel => exact ⟨by simp, by rw [e3.out]; exact hR, hT, hD, hA, hDs, hg, hX, hN⟩
               · have hb1 : (kd == 1) = false := by simp [hk1]
                 have hNF : nb = false := by rw [← HNB.out]; simp [hk1]
                 subst hNF
                 have e2 := HDN.out
                 rw [if_neg (by decide)] at e2
                 have e3 := Lib.hid e2
                 clear e2
                 clear hk1
                 have x1 : V8.cell? ⟨XX, 1, none⟩ = some (.bool true) := cell_of_row _ _ 1 _ _ _ hX
                 have d08 : V8.cell? ⟨D, 0, none⟩ = some (.int .i64 kd) := cell_of_row _ _ 0 _ _ _ hD
                 go_wp2_with fail
                 go_meet
                 case rel => exact ⟨by simp, by rw [e3.out]; exact hR, hT, hD, hA, hDs, hg, hX, hN⟩
              case rest =>
               clear hR hT hD hA hg hX hDs HTk HDN hN
               obtain ⟨rfl, hR, hT, hD, hA, hDs, hg, hX, hN⟩ := hcut
               rename World => V8
               have hXs8 : XX < V8.heap.size := (Array.getElem?_eq_some_iff.1 hX).1
               go_upto_if 92 with fail
               go_cut [] from 93 to 96 (fun wx => RfAt w0 wx a wv m2 (-1) ∧ Turns (only a) w wx ∧ wx.heap[D]? = some (.cells #[.int .i64 kd, .string ⟨#[]⟩, sv, .int .i64 xp] 65 (0, 0)) ∧ wx.heap[A]? = some (.cells #[.int .i64 0, .string ⟨#[]⟩, .slice none 0 0, .int .i64 0] 65 (0, 0)) ∧ D + 1 ≤ wx.heap.size ∧ GrowL (D + 1) 60 4 smR (fun _ => False) wx sv ys acc ∧ wx.heap[XX]? = some (.cells #[.string nX, .bool lX, .int .i64 mX, .int .i64 pX] 60 (0, 0)))
               case first =>
                cases nb with
                | false =>
                  have e1 := HXX.out
                  rw [if_neg (by decide)] at e1
                  cases e1
                  go_wp2_with fail
                  go_meet
                  case rel => exact ⟨hR, hT, hD, hA, hDs, hg, hX⟩
                | true =>
                  have e1 := HXX.out
                  rw [if_pos rfl] at e1
                  cases e1
                  have h3 : kd = 1 ∧ zk = 1 ∧ yk = 3 := of_decide_eq_true HNB.out
                  obtain ⟨hn5, hnd⟩ := HNum.out h3.2.2
                  have HVal := Lib.hid (fun W => value_any yt W hn5 hnd)
                  clear h3 hn5 hnd HNum
                  obtain ⟨nn0, nn1, nn2, _⟩ := box3 hN
                  have x2 : V8.cell? ⟨XX, 2, none⟩ = some (.int .i64 0) := cell_of_row _ _ 2 _ _ _ hX
                  have xf := free_of_block (j := 2) hX
                  go_wp2_with (first | (go_at_call 91; (with_reducible refine (HVal.out _).mono ?_); rintro e V11 ⟨rfl, rfl⟩))
                  have hXD : XX ≠ D := by omega
                  have hXA : XX ≠ A := by omega
                  have q4 := fun (b : Nat) (hb : b ≠ XX) => Below.heap_setCell V8 ⟨XX, 2, none⟩ (.int .i64 (rdNum yt : Nat)) b hb
                  have hXo : ∀ b, (False ∨ sv.ownBlock = some b) → b ≠ XX := HGX.out XX rfl
                  go_meet
                  case rel => exact ⟨hR.aside hXa (by omega) _, hT.setCell (p := ⟨XX, 2, none⟩) (.inr (show w.heap.size ≤ XX by omega)) _, (q4 D (Ne.symm hXD)).trans hD, (q4 A (Ne.symm hXA)).trans hA, by simp [World.setCell]; omega, hg.keep (fun b hb => q4 b (hXo b hb)), block_setCell hX⟩
               case rest =>
                clear hR hT hD hA hg hX hDs HXX hN HNum
                obtain ⟨hR, hT, hD, hA, hDs, hg, hX⟩ := hcut
                rename World => V9
                have hXs9 : XX < V9.heap.size := (Array.getElem?_eq_some_iff.1 hX).1
                have hown := hg.own
                have hob := fun g (h : sv.ownBlock = some g) => own_base hown (Nat.le_refl _) g h
                have hne : some D ≠ sv.ownBlock := fun h => by have := hob D h.symm; omega
                obtain ⟨u0, u1, u2, u3, _⟩ := box4 hX
                have d2 : V9.cell? ⟨D, 2, none⟩ = some sv := cell_of_row _ _ 2 _ _ _ hD
                have a2 := rdCell_alloc d2 (.cells #[.string nX, .bool lX, .int .i64 mX, .int .i64 pX] 60)
                have fr2 := free_of_block (j := 2) (heap_keep _ (.cells #[.string nX, .bool lX, .int .i64 mX, .int .i64 pX] 60) hD)
                obtain ⟨i0, hi, iz0, iz1, iz2⟩ := rd_info rdInfoSym
                have HH := Lib.hid (And.intro hR (And.intro hT (And.intro hD (And.intro hA (And.intro hg hDs)))))
                clear hR hT hA hX
                go_upto_region 25 with (first | (refine wpList_append_lies _ (by rfl) _ _ _ (by rfl) (D + 1) 60 i0 (.agg #[.string ByteArray.empty, .bool false, .int .i64 0, .int .i64 0]) 4 40 Tryz.underlying63 hi iz0 iz1 iz2 rfl (by omega) sv acc.length ys (by rfl) (hown.alloc _) ⟨V9.heap.size, 0, none⟩ 1 1 [.string nX, .bool lX, .int .i64 mX, .int .i64 pX] (by rfl) (by rfl) (rd_news V9 _ _) (by simp [Value.oneCell']) (by omega) (by unfold maxLen; omega) (by omega) (by simp; omega) (V9.heap.size + 1) (by simp) ?_; intro gg2 cap w9 hown9 hgrow9 hat hlt9; have f9 : w9.cell? ⟨D, 2, none⟩ = some sv := hgrow9.cell a2 hne; have r9 := (hgrow9.frozen_far ⟨D, 2, none⟩ (show D < (V9.alloc _).heap.size from by simp; omega) hne).trans fr2))
                obtain ⟨hR, hT, hD0, hA, hg0, hDs0⟩ := HH.out
                have k9 := (Below.refl V9.heap.size V9).alloc (Nat.le_refl _) (.cells #[.string nX, .bool lX, .int .i64 mX, .int .i64 pX] 60)
                have hpu := (hg0.below k9).box0 (j := 2) (x := (⟨nX, lX, mX, pX⟩ : Sm)) (cs := [.string nX, .bool lX, .int .i64 mX, .int .i64 pX]) (Below.refl _ _) hown9 hgrow9 (own_new hat (by simp)) rfl (fun X => show smR X _ ⟨nX, lX, mX, pX⟩ from rfl) (Nat.lt_succ_self D) (heap_keep _ _ hD0)
                have hq := hpu.2.2.1 w.heap.size (by omega)
                have hqD := hpu.2.2.1 D (Nat.le_refl _)
                have hR9 := (hR.ahead k9).far hq ha hlt
                have hT9 := (hT.far (k9.mono hT.size)).far hq
                have hA9 := (hqD.block A hAD).trans (heap_keep _ _ hA)
                have hs9 : D + 1 ≤ (w9.setCell ⟨D, 2, none⟩ (.slice (some ⟨gg2, 0, none⟩) (acc.length + 1) cap)).heap.size := by have := hqD.size; simp at this ⊢; omega
                have e0 : (w9.setCell ⟨D, 2, none⟩ (.slice (some ⟨gg2, 0, none⟩) (acc.length + 1) cap)).cell? ⟨D, 0, none⟩ = some (.int .i64 kd) := cell_of_row _ _ 0 _ _ _ hpu.2.1
                clear hg hD hDs d0 d2 a2 fr2 f9 r9 u0 u1 u2 u3 hR hT hD0 hA hg0 hDs0 k9 hq hqD hown hown9 hgrow9 hob hne HH
                have HE := Lib.hid (HS1.out H6.out)
                clear HS1 HS6
                go_wp2_with fail
                go_roundg (L.length - m2)
                case rel => exact ⟨m2, _, _, _, by omega, hR9, hT9, hpu.2.1, hA9, hs9, hpu.1, HE, hDb.2, by omega, by simp; omega⟩
                case measure => omega
            | false =>
              rw [hz2] at hIs hdc hSy HDX
              cases sb with
              | true =>
                obtain rfl : db = true := by rw [hdc]; rfl
                have HZ1 : Hid (zk = 1) := Lib.hid (by have h1 := HZT.out rfl; simp only [decide_eq_false_iff_not] at hz2; omega)
                clear hdc HStop
                have hm1 := HNx.out rfl
                have hDb := HBd.out rfl
                replace HS1 := Lib.hid (HS1.out rfl)
                replace HS6 := Lib.hid (HS6.out rfl)
                go_upto_region 20 with (first | (go_at_call 55; (with_reducible refine hIs.out.mono ?_); rintro e V1 ⟨rfl, hv1⟩; have d01 := (hv1.cell (p := ⟨D, 0, none⟩) (World.block_lt_of_cell? _ _ d0)).trans d0) | (go_at_call 90; (with_reducible refine (hSy.out _ (hR.ahead hv1)).mono ?_); rintro e V5 hpost; rcases hpost with ⟨hsb, rfl, h5, ht5⟩ | ⟨hsb, rfl, h5, ht5⟩))
                rotate_left 1
                · cases hsb
                clear hsb
                have hv := hv1
                replace hR := hR.ahead hv
                replace hT := hT.far (hv.mono hT.size)
                replace hD := block_below hD hv (by omega)
                replace hA := block_below hA hv (by omega)
                replace hg := hg.below hv
                replace hDs := Nat.le_trans hDs hv.size
                clear hv hIs hSy
                have D5 := ht5.heap hD (show ¬ only a D from hDa)
                have A5 := ht5.heap hA (show ¬ only a A from hAa)
                have HGL : Hid (∀ b, (False ∨ sv.ownBlock = some b) → b < V5.heap.size) := Lib.hid (fun b hb => Nat.lt_of_lt_of_le (hg.lt b hb) ht5.size)
                have g5 := hg.keep (w' := V5) (fun b hb => by rcases hb with hb | hb; exact hb.elim; exact ht5.block b (hg.own.lt b hb).2 (fun e => by have := own_base hg.own (Nat.le_refl _) b hb; unfold only at e; omega))
                have hT5 := hT.trans ht5 (fun _ _ h => h)
                have hs5 := ht5.size
                clear hR hT hD hA hg ht5
                have hv := (Below.refl V5.heap.size V5).alloc (Nat.le_refl _) (.cells #[.string zt, .bool false, .int .i64 0, .int .i64 zp] 60)
                have hX := heap_made V5 #[.string zt, .bool false, .int .i64 0, .int .i64 zp] 60 _ rfl
                have hR := h5.ahead hv
                have hT := hT5.far (hv.mono hT5.size)
                have hD := block_below D5 hv (by omega)
                have hA := block_below A5 hv (by omega)
                have hg := g5.below hv
                have hXs : V5.heap.size < (V5.alloc (.cells #[.string zt, .bool false, .int .i64 0, .int .i64 zp] 60)).heap.size := by simp
                have hVX : D + 1 ≤ V5.heap.size := by omega
                clear h5 hT5 D5 A5 g5 hs5 hv hDs
                generalize hXX : V5.heap.size = XX at hX hXs hVX HGL ⊢
                clear hXX
                generalize V5.alloc (.cells #[.string zt, .bool false, .int .i64 0, .int .i64 zp] 60) = V6 at hX hR hT hD hA hg hXs ⊢
                have hDs : D + 1 ≤ V6.heap.size := by omega
                have hXa : XX ≠ a := by omega
                have HGX : Hid (∀ x, x = XX → ∀ b, (False ∨ sv.ownBlock = some b) → b ≠ x) := Lib.hid (fun x hx b hb => by have h1 := HGL.out b hb; omega)
                go_upto_region 21 with fail
                have HNow2 := Lib.hid (HNow.out hm1 _ hR)
                go_upto_region 22 with (first | (go_at_call 56; (with_reducible refine HNow2.out.mono ?_); rintro e V7 ⟨rfl, hw7⟩))
                have hv := hw7.alloc hw7.size (.cells #[.int .i64 yk, .string yt, .int .i64 yp] 42)
                have hN := heap_made V7 #[.int .i64 yk, .string yt, .int .i64 yp] 42 _ rfl
                replace hR := hR.ahead hv
                replace hT := hT.far (hv.mono hT.size)
                replace hD := block_below hD hv (by omega)
                replace hA := block_below hA hv (by omega)
                replace hg := hg.below hv
                replace hDs := Nat.le_trans hDs hv.size
                replace hX := block_below hX hv (by omega)
                have hNX : XX < V7.heap.size := by have := hw7.size; omega
                have hNs : V7.heap.size < (V7.alloc (.cells #[.int .i64 yk, .string yt, .int .i64 yp] 42)).heap.size := by simp
                clear HNow2 hw7 hv
                generalize hNN : V7.heap.size = NN at hN hNX hNs ⊢
                clear hNN
                generalize V7.alloc (.cells #[.int .i64 yk, .string yt, .int .i64 yp] 42) = V8 at hX hR hT hD hA hg hDs hN hNs ⊢
                have hNa : NN ≠ a := by omega
                replace HTk := Lib.hid (HTk.out hm1)
                replace HNum := Lib.hid (HNum.out hm1)
                obtain ⟨nX, lX, mX, pX⟩ := X
                have HXX : Hid ((⟨nX, lX, mX, pX⟩ : Sm) = if decide (kd = 1 ∧ zk = 1 ∧ yk = 3) = true then ⟨zt, false, (rdNum yt : Nat), zp⟩ else ⟨zt, false, 0, zp⟩) := HDX
                clear HDX
                generalize hnb : decide (kd = 1 ∧ zk = 1 ∧ yk = 3) = nb at HXX HDN
                have HNB := Lib.hid hnb
                clear hnb
                go_cut [92] from 81 to 92 (fun x92 wx => x92 = .bool nb ∧ RfAt w0 wx a wv m2 (-1) ∧ Turns (only a) w wx ∧ wx.heap[D]? = some (.cells #[.int .i64 kd, .string ⟨#[]⟩, sv, .int .i64 xp] 65 (0, 0)) ∧ wx.heap[A]? = some (.cells #[.int .i64 0, .string ⟨#[]⟩, .slice none 0 0, .int .i64 0] 65 (0, 0)) ∧ D + 1 ≤ wx.heap.size ∧ GrowL (D + 1) 60 4 smR (fun _ => False) wx sv ys acc ∧ wx.heap[XX]? = some (.cells #[.string zt, .bool false, .int .i64 0, .int .i64 zp] 60 (0, 0)) ∧ wx.heap[NN]? = some (.cells #[.int .i64 yk, .string yt, .int .i64 yp] 42 (0, 0)))
                case first =>
                 by_cases hk1 : kd = 1
                 · have hzk : zk = 1 := HZ1.out
                   have hb1 : (kd == 1) = true := by simp [hk1]
                   have hNy : decide (yk = 3) = nb := by rw [← HNB.out]; simp [hk1, hzk]
                   clear hk1 hzk
                   have x1 : V8.cell? ⟨XX, 1, none⟩ = some (.bool false) := cell_of_row _ _ 1 _ _ _ hX
                   have d08 : V8.cell? ⟨D, 0, none⟩ = some (.int .i64 kd) := cell_of_row _ _ 0 _ _ _ hD
                   have HTk2 := Lib.hid (HTk.out _ hR)
                   rw [hNy, ← HDN.out] at HTk2
                   clear hNy
                   go_wp2_with (first | (go_at_call 57; (with_reducible refine HTk2.out.mono ?_); rintro e V10 ⟨rfl, h10, ht10⟩))
                   have D10 := ht10.heap hD (show ¬ only a D from hDa)
                   have A10 := ht10.heap hA (show ¬ only a A from hAa)
                   have X10 := ht10.heap hX (show ¬ only a XX from hXa)
                   have N10 := ht10.heap hN (show ¬ only a NN from hNa)
                   have g10 := hg.keep (w' := V10) (fun b hb => by rcases hb with hb | hb; exact hb.elim; exact ht10.block b (hg.own.lt b hb).2 (fun e => by have := own_base hg.own (Nat.le_refl _) b hb; unfold only at e; omega))
                   have s10 := ht10.size
                   go_meet
                   case rel => exact ⟨by simp, h10, hT.trans ht10 (fun _ _ h => h), D10, A10, by omega, g10, X10, N10⟩
                 · have hb1 : (kd == 1) = false := by simp [hk1]
                   have hNF : nb = false := by rw [← HNB.out]; simp [hk1]
                   subst hNF
                   have e2 := HDN.out
                   rw [if_neg (by decide)] at e2
                   have e3 := Lib.hid e2
                   clear e2
                   clear hk1
                   have x1 : V8.cell? ⟨XX, 1, none⟩ = some (.bool false) := cell_of_row _ _ 1 _ _ _ hX
                   have d08 : V8.cell? ⟨D, 0, none⟩ = some (.int .i64 kd) := cell_of_row _ _ 0 _ _ _ hD
                   go_wp2_with fail
                   go_meet
                   case rel => exact ⟨by simp, by rw [e3.out]; exact hR, hT, hD, hA, hDs, hg, hX, hN⟩
                case rest =>
                 clear hR hT hD hA hg hX hDs HTk HDN hN
                 obtain ⟨rfl, hR, hT, hD, hA, hDs, hg, hX, hN⟩ := hcut
                 rename World => V8
                 have hXs8 : XX < V8.heap.size := (Array.getElem?_eq_some_iff.1 hX).1
                 go_upto_if 92 with fail
                 go_cut [] from 93 to 96 (fun wx => RfAt w0 wx a wv m2 (-1) ∧ Turns (only a) w wx ∧ wx.heap[D]? = some (.cells #[.int .i64 kd, .string ⟨#[]⟩, sv, .int .i64 xp] 65 (0, 0)) ∧ wx.heap[A]? = some (.cells #[.int .i64 0, .string ⟨#[]⟩, .slice none 0 0, .int .i64 0] 65 (0, 0)) ∧ D + 1 ≤ wx.heap.size ∧ GrowL (D + 1) 60 4 smR (fun _ => False) wx sv ys acc ∧ wx.heap[XX]? = some (.cells #[.string nX, .bool lX, .int .i64 mX, .int .i64 pX] 60 (0, 0)))
                 case first =>
                  cases nb with
                  | false =>
                    have e1 := HXX.out
                    rw [if_neg (by decide)] at e1
                    cases e1
                    go_wp2_with fail
                    go_meet
                    case rel => exact ⟨hR, hT, hD, hA, hDs, hg, hX⟩
                  | true =>
                    have e1 := HXX.out
                    rw [if_pos rfl] at e1
                    cases e1
                    have h3 : kd = 1 ∧ zk = 1 ∧ yk = 3 := of_decide_eq_true HNB.out
                    obtain ⟨hn5, hnd⟩ := HNum.out h3.2.2
                    have HVal := Lib.hid (fun W => value_any yt W hn5 hnd)
                    clear h3 hn5 hnd HNum
                    obtain ⟨nn0, nn1, nn2, _⟩ := box3 hN
                    have x2 : V8.cell? ⟨XX, 2, none⟩ = some (.int .i64 0) := cell_of_row _ _ 2 _ _ _ hX
                    have xf := free_of_block (j := 2) hX
                    go_wp2_with (first | (go_at_call 91; (with_reducible refine (HVal.out _).mono ?_); rintro e V11 ⟨rfl, rfl⟩))
                    have hXD : XX ≠ D := by omega
                    have hXA : XX ≠ A := by omega
                    have q4 := fun (b : Nat) (hb : b ≠ XX) => Below.heap_setCell V8 ⟨XX, 2, none⟩ (.int .i64 (rdNum yt : Nat)) b hb
                    have hXo : ∀ b, (False ∨ sv.ownBlock = some b) → b ≠ XX := HGX.out XX rfl
                    go_meet
                    case rel => exact ⟨hR.aside hXa (by omega) _, hT.setCell (p := ⟨XX, 2, none⟩) (.inr (show w.heap.size ≤ XX by omega)) _, (q4 D (Ne.symm hXD)).trans hD, (q4 A (Ne.symm hXA)).trans hA, by simp [World.setCell]; omega, hg.keep (fun b hb => q4 b (hXo b hb)), block_setCell hX⟩
                 case rest =>
                  clear hR hT hD hA hg hX hDs HXX hN HNum
                  obtain ⟨hR, hT, hD, hA, hDs, hg, hX⟩ := hcut
                  rename World => V9
                  have hXs9 : XX < V9.heap.size := (Array.getElem?_eq_some_iff.1 hX).1
                  have hown := hg.own
                  have hob := fun g (h : sv.ownBlock = some g) => own_base hown (Nat.le_refl _) g h
                  have hne : some D ≠ sv.ownBlock := fun h => by have := hob D h.symm; omega
                  obtain ⟨u0, u1, u2, u3, _⟩ := box4 hX
                  have d2 : V9.cell? ⟨D, 2, none⟩ = some sv := cell_of_row _ _ 2 _ _ _ hD
                  have a2 := rdCell_alloc d2 (.cells #[.string nX, .bool lX, .int .i64 mX, .int .i64 pX] 60)
                  have fr2 := free_of_block (j := 2) (heap_keep _ (.cells #[.string nX, .bool lX, .int .i64 mX, .int .i64 pX] 60) hD)
                  obtain ⟨i0, hi, iz0, iz1, iz2⟩ := rd_info rdInfoSym
                  have HH := Lib.hid (And.intro hR (And.intro hT (And.intro hD (And.intro hA (And.intro hg hDs)))))
                  clear hR hT hA hX
                  go_upto_region 25 with (first | (refine wpList_append_lies _ (by rfl) _ _ _ (by rfl) (D + 1) 60 i0 (.agg #[.string ByteArray.empty, .bool false, .int .i64 0, .int .i64 0]) 4 40 Tryz.underlying63 hi iz0 iz1 iz2 rfl (by omega) sv acc.length ys (by rfl) (hown.alloc _) ⟨V9.heap.size, 0, none⟩ 1 1 [.string nX, .bool lX, .int .i64 mX, .int .i64 pX] (by rfl) (by rfl) (rd_news V9 _ _) (by simp [Value.oneCell']) (by omega) (by unfold maxLen; omega) (by omega) (by simp; omega) (V9.heap.size + 1) (by simp) ?_; intro gg2 cap w9 hown9 hgrow9 hat hlt9; have f9 : w9.cell? ⟨D, 2, none⟩ = some sv := hgrow9.cell a2 hne; have r9 := (hgrow9.frozen_far ⟨D, 2, none⟩ (show D < (V9.alloc _).heap.size from by simp; omega) hne).trans fr2))
                  obtain ⟨hR, hT, hD0, hA, hg0, hDs0⟩ := HH.out
                  have k9 := (Below.refl V9.heap.size V9).alloc (Nat.le_refl _) (.cells #[.string nX, .bool lX, .int .i64 mX, .int .i64 pX] 60)
                  have hpu := (hg0.below k9).box0 (j := 2) (x := (⟨nX, lX, mX, pX⟩ : Sm)) (cs := [.string nX, .bool lX, .int .i64 mX, .int .i64 pX]) (Below.refl _ _) hown9 hgrow9 (own_new hat (by simp)) rfl (fun X => show smR X _ ⟨nX, lX, mX, pX⟩ from rfl) (Nat.lt_succ_self D) (heap_keep _ _ hD0)
                  have hq := hpu.2.2.1 w.heap.size (by omega)
                  have hqD := hpu.2.2.1 D (Nat.le_refl _)
                  have hR9 := (hR.ahead k9).far hq ha hlt
                  have hT9 := (hT.far (k9.mono hT.size)).far hq
                  have hA9 := (hqD.block A hAD).trans (heap_keep _ _ hA)
                  have hs9 : D + 1 ≤ (w9.setCell ⟨D, 2, none⟩ (.slice (some ⟨gg2, 0, none⟩) (acc.length + 1) cap)).heap.size := by have := hqD.size; simp at this ⊢; omega
                  have e0 : (w9.setCell ⟨D, 2, none⟩ (.slice (some ⟨gg2, 0, none⟩) (acc.length + 1) cap)).cell? ⟨D, 0, none⟩ = some (.int .i64 kd) := cell_of_row _ _ 0 _ _ _ hpu.2.1
                  clear hg hD hDs d0 d2 a2 fr2 f9 r9 u0 u1 u2 u3 hR hT hD0 hA hg0 hDs0 k9 hq hqD hown hown9 hgrow9 hob hne HH
                  have HE := Lib.hid (HS1.out H6.out)
                  clear HS1 HS6
                  go_wp2_with fail
                  go_roundg (L.length - m2)
                  case rel => exact ⟨m2, _, _, _, by omega, hR9, hT9, hpu.2.1, hA9, hs9, hpu.1, HE, hDb.2, by omega, by simp; omega⟩
                  case measure => omega
              | false =>
                obtain rfl : db = false := by rw [hdc]; rfl
                have HE := Lib.hid (HStop.out rfl)
                clear hdc HStop HBd HS1 HS6
                go_wp2_with (first | (go_at_call 55; (with_reducible refine hIs.out.mono ?_); rintro e V1 ⟨rfl, hv1⟩; have d01 := (hv1.cell (p := ⟨D, 0, none⟩) (World.block_lt_of_cell? _ _ d0)).trans d0) | (go_at_call 90; (with_reducible refine (hSy.out _ (hR.ahead hv1)).mono ?_); rintro e V5 hpost; rcases hpost with ⟨hsb, rfl, h5, ht5⟩ | ⟨hsb, rfl, h5, ht5⟩))
                · cases hsb
                have hv := hv1
                replace hR := hR.ahead hv
                replace hT := hT.far (hv.mono hT.size)
                replace hD := block_below hD hv (by omega)
                replace hA := block_below hA hv (by omega)
                replace hg := hg.below hv
                replace hDs := Nat.le_trans hDs hv.size
                have D5 := ht5.heap hD (show ¬ only a D from hDa)
                have A5 := ht5.heap hA (show ¬ only a A from hAa)
                have g5 := hg.keep (w' := V5) (fun b hb => by rcases hb with hb | hb; exact hb.elim; exact ht5.block b (hg.own.lt b hb).2 (fun e => by have := own_base hg.own (Nat.le_refl _) b hb; unfold only at e; omega))
                have hT5 := hT.trans ht5 (fun _ _ h => h)
                have hs5 := ht5.size
                have hv9 := (Below.refl V5.heap.size V5).alloc (Nat.le_refl _) (.cells #[.string ⟨#[]⟩, .bool false, .int .i64 0, .int .i64 0] 60 : Obj)
                go_meet
                case rel => exact ⟨m, sv, ys, acc, h5.ahead hv9, hT5.far (hv9.mono hT5.size), block_below D5 hv9 (by omega), block_below A5 hv9 (by omega), by have := hv9.size; omega, g5.below hv9, HE, hm, hnm, by omega⟩
          case rest =>
           clear hR hT hD hA D2 hDs
           obtain ⟨m, sv, ys, acc, hR, hT, hD, hA, hDs, hg, HE, hm, hnm, hal⟩ := hcut
           rename World => V
           obtain ⟨sa, sc, rfl⟩ := rd_slice hg.own
           have HF2 := Lib.hid (hg.firm (by omega))
           have HB2 : Hid (∀ b, (False ∨ (Value.slice sa acc.length sc).ownBlock = some b) → D + 1 ≤ b) := Lib.hid (fun b hb => hb.elim (fun h => h.elim) (fun h => own_base hg.own (Nat.le_refl _) b h))
           have dl : V.cell? ⟨D, 2, none⟩ = some (.slice sa acc.length sc) := cell_of_row _ _ 2 _ _ _ hD
           by_cases h0 : acc = []
           · have HRB : Hid (RES = .bad (L.drop m)) := Lib.hid (by rw [HQ.out, HE.out]; exact if_pos h0)
             have HPm := Lib.hid (HPB.out m hm HRB.out)
             have HFl := Lib.hid (fail_any HI.out hR hm (.inl rfl))
             have hl0 : acc.length = 0 := by rw [h0]; rfl
             have hle : (((acc.length : Nat) : Int) == 0) = true := by rw [hl0]; rfl
             rw [badOr_open] at HFl
             clear HE HQ hl0 HPA HPB hg h0
             go_upto_region 28 with (first | (go_at_call 59; (with_reducible refine HFl.out.mono ?_); rintro e V5 ⟨rfl, h5, ht5⟩))
             have D5 := ht5.heap hD (show ¬ only a D from hDa)
             have A5 := ht5.heap hA (show ¬ only a A from hAa)
             have hT5 := hT.trans ht5 (fun _ _ h => h)
             replace HF2 := Lib.hid (HF2.out.keep (w' := V5) (fun b hb => ht5.block b (HF2.out.1 b hb) (fun e => by have := HB2.out b hb; unfold only at e; omega)))
             clear hR hT hD hA ht5 dl
             have hR := h5
             have hT := hT5
             have hD := D5
             have hA := A5
             clear h5 hT5 D5 A5
             obtain ⟨d0, d1, d2, d3, e0, e1, e2, e3⟩ := box4 hD
             obtain ⟨a0, a1, a2, a3, g0, g1, g2, g3⟩ := box4 hA
             have HR := Lib.hid (And.intro hR hT)
             clear hR hT
             go_wp2_with fail
             obtain ⟨hR, hT⟩ := HR.out
             have hRR := set4_row8 hA (.int .i64 kd) (.string ⟨#[]⟩) (.slice sa acc.length sc) (.int .i64 xp)
             exact bodyPost_ret (v := .agg #[.int .i64 kd, .string ⟨#[]⟩, .slice sa acc.length sc, .int .i64 xp]) (results_cell_row rfl _ _ A 65 #[.int .i64 kd, .string ⟨#[]⟩, .slice sa acc.length sc, .int .i64 xp] (0, 0) _ rfl hRR Tryz.underlying65 rfl declInfo8) rfl
              ⟨⟨kd, ⟨#[]⟩, acc, xp⟩, m, (wAt L m).place, sa, acc.length, sc, _, rfl, HF2.out.keep (fun b hb => by
               have hb1 := HB2.out b hb
               have hb2 : b ≠ A := by omega
               exact (Below.heap_setCell _ _ _ _ hb2).trans ((Below.heap_setCell _ _ _ _ hb2).trans ((Below.heap_setCell _ _ _ _ hb2).trans (Below.heap_setCell _ _ _ _ hb2)))), fun b hb => by have := HB2.out b hb; omega, hm, hR.aside4 hAa (by omega) _ _ _ _, hT.set4 (.inr (by omega)) _ _ _ _, .inr ⟨HPm.out.1, HPm.out.2.1, HPm.out.2.2⟩⟩
           · have HRO : Hid (RES = .ok ⟨kd, ⟨#[]⟩, acc, xp⟩ (L.drop m)) := Lib.hid (by rw [HQ.out, HE.out]; exact if_neg h0)
             have HPm := Lib.hid (HPA.out _ m HRO.out hnm)
             have hl1 : 0 < acc.length := List.length_pos_iff.2 h0
             have hle : (((acc.length : Nat) : Int) == 0) = false := by rw [beq_eq_false_iff_ne]; omega
             clear HE HQ h0 HPA HPB hg
             go_upto_region 28 with fail
             obtain ⟨d0, d1, d2, d3, e0, e1, e2, e3⟩ := box4 hD
             obtain ⟨a0, a1, a2, a3, g0, g1, g2, g3⟩ := box4 hA
             have HR := Lib.hid (And.intro hR hT)
             clear hR hT
             go_wp2_with fail
             obtain ⟨hR, hT⟩ := HR.out
             have hRR := set4_row8 hA (.int .i64 kd) (.string ⟨#[]⟩) (.slice sa acc.length sc) (.int .i64 xp)
             exact bodyPost_ret (v := .agg #[.int .i64 kd, .string ⟨#[]⟩, .slice sa acc.length sc, .int .i64 xp]) (results_cell_row rfl _ _ A 65 #[.int .i64 kd, .string ⟨#[]⟩, .slice sa acc.length sc, .int .i64 xp] (0, 0) _ rfl hRR Tryz.underlying65 rfl declInfo8) rfl
              ⟨⟨kd, ⟨#[]⟩, acc, xp⟩, m, (-1), sa, acc.length, sc, _, rfl, HF2.out.keep (fun b hb => by
               have hb1 := HB2.out b hb
               have hb2 : b ≠ A := by omega
               exact (Below.heap_setCell _ _ _ _ hb2).trans ((Below.heap_setCell _ _ _ _ hb2).trans ((Below.heap_setCell _ _ _ _ hb2).trans (Below.heap_setCell _ _ _ _ hb2)))), fun b hb => by have := HB2.out b hb; omega, hm, hR.aside4 hAa (by omega) _ _ _ _, hT.set4 (.inr (by omega)) _ _ _ _, .inl ⟨rfl, HPm.out⟩⟩
end
end Go.Proofs.YtnoppoifepbchaaGreatDoor
