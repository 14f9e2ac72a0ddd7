/- The document's reader: does a rule begin; digits' value. -/
import Derived.Test.YtnoppoifepbchaaGreatDoorRf1
namespace Go.Proofs.YtnoppoifepbchaaGreatDoor
open Go.RowKit
set_option linter.unusedVariables false
set_option linter.unusedSimpArgs false

theorem quiet_is {P : Program} {f : FuncId} {args : Array Value} {w : World} {n : Nat} {b : Bool} (h : Calls P f args (w.drewN n) (QuietB b (w.drewN n))) : Calls P f args (w.drewN n) fun e w'' => e = .returned (.bool b) ∧ ∃ m, w'' = w.drewN m :=
 h.mono fun _ _ ⟨m, he, hm⟩ => ⟨he, n + m, by rw [hm, World.drewN_drewN]⟩
def begB3 (bad : Int) (L : Wds) (n : Nat) : Bool := decide (bad < 0) && beginsB (L.drop n)

section
variable {w0 w : World} {a : Nat} {wv : Value} {n : Nat} {bad : Int} {L : Wds}
set_option maxRecDepth 100000 in
set_option maxHeartbeats 4000000 in
theorem begins_any7 (hI : RdIn w0 wv L a) (h : RfAt w0 w a wv n bad) (hn : n < L.length) :
  Calls Tryz.prog 60 #[.pointer (some ⟨a, 0, none⟩)] w fun e w' => e = .returned (.bool (begB3 bad L n)) ∧ Below w.heap.size w w' := by
 have HS := Lib.hid (fun m => is_quiet hI (h.ahead (below_drewN w m)) hn 1 ⟨#[]⟩)
 have hB : begB3 bad L n = (isB bad 1 ⟨#[]⟩ (wAt L n) && (decide ((wAt L (n + 1)).kind = 6) && ((wAt L (n + 1)).text.toList == [58]))) := by
  unfold begB3 beginsB isB
  rw [drop_tail, Bool.eq_iff_iff]
  have h : (⟨#[]⟩ : ByteArray).toList = [] := by decide +kernel
  rw [h]
  simp only [Bool.and_eq_true, Bool.or_eq_true, decide_eq_true_eq, beq_self_eq_true, true_or, and_true, beq_iff_eq]
  exact and_assoc.symm
 have hk : isB bad 1 ⟨#[]⟩ (wAt L n) = true → (wAt L n).kind = 1 := fun e => by
  unfold isB at e
  simp only [Bool.and_eq_true, decide_eq_true_eq] at e
  exact e.2.1
 have HN : Hid (isB bad 1 ⟨#[]⟩ (wAt L n) = true → n + 1 < L.length) := Lib.hid (fun e => hI.ok.next hn (by rw [hk e]; decide))
 have hnb : n < 100000 := Nat.lt_of_lt_of_le hn hI.ok.len
 rw [hB]
 clear hB hk
 generalize isB bad 1 ⟨#[]⟩ (wAt L n) = b at HS HN ⊢
 cases b with
 | false =>
   clear h hI hn HN
   go_enter Tryz.func60, Tryz.ntmps60
   go_wp2_with fail
   go_quiet ((go_at_call 55; exact quiet_is (HS.out _)))
   go_wp2_with fail
   go_ret
   exact ⟨by rfl, below_drewN _ _⟩
 | true =>
   have hn1 := HN.out rfl
   obtain ⟨c0, c1, c2⟩ := h.cells
   obtain ⟨b, o, m, c, rfl, hm, hnm, hmc, hc, x0, x1, x2⟩ := (hI.ws.below h.below).at hn1
   generalize wAt L (n + 1) = y at x0 x1 x2 ⊢
   obtain ⟨yk, yt, yp⟩ := y
   simp only at x0 x1 x2 ⊢
   have i1 : (n : Int) + 1 < (m : Int) := by omega
   have hw : IntKind.i64.wrap ((n : Int) + 1) = (n : Int) + 1 := IntWalk.i64_in _ (by omega)
   have i0 : 0 ≤ (n : Int) + 1 := by omega
   have i2 : ((n : Int) + 1).toNat = n + 1 := by omega
   have hd : (yk == 6) = decide (yk = 6) := by rw [Bool.eq_iff_iff]; simp
   clear h hI hn HN hn1 hm hnm
   cases h6 : decide (yk = 6) with
   | false =>
     rw [h6] at hd
     go_enter Tryz.func60, Tryz.ntmps60
     go_wp2_with fail
     go_quiet ((go_at_call 55; exact quiet_is (HS.out _)))
     go_wp2_with fail
     go_ret
     exact ⟨by rfl, below_drewN _ _⟩
   | true =>
     rw [h6] at hd
     go_enter Tryz.func60, Tryz.ntmps60
     go_wp2_with fail
     go_quiet ((go_at_call 55; exact quiet_is (HS.out _)))
     go_wp2_with fail
     go_ret
     exact ⟨by rfl, below_drewN _ _⟩

def preN (t : ByteArray) (k : Nat) : Nat := (t.data.toList.take k).foldl (fun a c => a * 10 + (c.toNat - 48)) 0
theorem preN_next {t : ByteArray} {k : Nat} (hk : k < t.data.toList.length) : preN t (k + 1) = preN t k * 10 + ((t.data.toList[k]).toNat - 48) := by
 unfold preN
 rw [List.take_succ_eq_append_getElem hk, List.foldl_append]; rfl
theorem preN_bd {t : ByteArray} (hd : ∀ c ∈ t.data.toList, 48 ≤ c.toNat ∧ c.toNat ≤ 57) : ∀ k, k ≤ t.data.toList.length → k ≤ 6 → preN t k < 10 ^ k := by
 intro k
 induction k with
 | zero => intro _ _; unfold preN; simp
 | succ k ih =>
   intro h1 h2
   rw [preN_next (by omega), Nat.pow_succ]
   have := ih (by omega) (by omega)
   have := hd _ (List.getElem_mem (show k < t.data.toList.length by omega))
   omega
set_option maxRecDepth 100000 in
set_option maxHeartbeats 4000000 in
theorem value_any (t : ByteArray) (w : World) (hz : t.size ≤ 5) (hd : ∀ c ∈ t.data.toList, 48 ≤ c.toNat ∧ c.toNat ≤ 57) :
  Calls Tryz.prog 91 #[.string t] w fun e w' => e = .returned (.int .i64 (rdNum t : Nat)) ∧ w = w' := by
 have hl : t.data.toList.length = t.size := by simp
 have hR : rdNum t = preN t t.size := by unfold rdNum preN; rw [← hl, List.take_length]
 rw [hR]
 have HN : Hid (∀ k, k < t.size → preN t (k + 1) = preN t k * 10 + ((t.data.toList.getD k 0).toNat - 48) ∧ 48 ≤ (t.data.toList.getD k 0).toNat ∧ (t.data.toList.getD k 0).toNat ≤ 57 ∧ preN t k < 100000) := Lib.hid (fun k hk => by
  have h1 : k < t.data.toList.length := by omega
  have h2 := hd _ (List.getElem_mem h1)
  have h3 := preN_bd hd k (by omega) (by omega)
  have h4 : 10 ^ k ≤ 10 ^ 5 := Nat.pow_le_pow_right (by decide) (by omega)
  rw [List.getD_eq_getElem?_getD, List.getElem?_eq_getElem h1]
  exact ⟨preN_next h1, h2.1, h2.2, by simp at h4; omega⟩)
 have hg : ∀ (j : Nat) (h : j < t.size), ((t[j]'h).toNat : Int) = ((t.data.toList.getD j 0).toNat : Int) := fun j h => by
  have h1 : j < t.data.toList.length := by omega
  rw [List.getD_eq_getElem?_getD, List.getElem?_eq_getElem h1]; rfl
 have h0 : preN t 0 = 0 := by unfold preN; simp
 generalize preN t = F at HN h0 ⊢
 generalize hq : (fun j => (t.data.toList.getD j 0).toNat) = G
 have HN2 : Hid (∀ k, k < t.size → F (k + 1) = F k * 10 + (G k - 48) ∧ 48 ≤ G k ∧ G k ≤ 57 ∧ F k < 100000) := Lib.hid (fun k hk => by rw [← hq]; exact HN.out k hk)
 have hg2 : ∀ (j : Nat) (h : j < t.size), ((t[j]'h).toNat : Int) = (G j : Int) := fun j h => by rw [← hq]; exact hg j h
 clear HN hg hq hd hl hR
 go_enter Tryz.func91, Tryz.ntmps91
 go_wp2_with fail
 go_loop [3, 4] (fun v i => ∃ k : Nat, k ≤ t.size ∧ i = .int .i64 k ∧ v = .int .i64 (F k : Nat)) (fun _ i => t.size - (intOf i).toNat)
 case atStart => exact ⟨0, Nat.zero_le _, rfl, by rw [h0]; rfl⟩
 case round =>
  obtain ⟨k, hk, rfl, rfl⟩ := hrel
  by_cases hlt : k < t.size
  · obtain ⟨e1, e2, e3, e4⟩ := HN2.out k hlt
    have i6 : (k : Int) < 6 := by omega
    have i1 : (k : Int) < (t.size : Int) := by omega
    have hgk := hg2 k hlt
    have H1 := Lib.hid e1
    clear e1
    go_wp2_with fail
    exact ⟨⟨k + 1, by omega, by simp, by rw [H1.out]; congr 1; omega⟩, by simp [intOf]; omega⟩
  · have i1 : ¬ ((k : Int) < (t.size : Int)) := by omega
    obtain rfl : k = t.size := by omega
    go_wp2_with fail
    go_ret
    exact ⟨rfl, rfl⟩
end
end Go.Proofs.YtnoppoifepbchaaGreatDoor
