/- The small machine at this program: functions of the library by what they are known to tell. -/
import Derived.Test.YtbampnmobbgbaaaDoorBld
import Derived.Test.YtbampnmobbgbaaaDoorSh28
import Derived.Test.YtbampnmobbgbaaaDoorEnvZ
namespace Go.Proofs.YtbampnmobbgbaaaDoor
open Go.RowKit
set_option linter.unusedVariables false
set_option linter.unusedSimpArgs false
noncomputable section
def decK (f : Nat) : Nat → List UInt8 :=
  Nat.rec (motive := fun _ => Nat → List UInt8) (fun _ => []) (fun _ g n => cond (Nat.ble n 9) [UInt8.ofNat (Nat.add 48 n)] (catL (g (Nat.div n 10)) [UInt8.ofNat (Nat.add 48 (Nat.mod n 10))])) f
def itoaK : Int → List UInt8
  | .ofNat n => decK 20 n
  | .negSucc n => 45 :: decK 20 (Nat.succ n)
def itoaS (args : List Value) (H : Hp) : Ret := match args with
  | [.int .i64 n] => cond (leI (-9223372036854775808) n && leI n 9223372036854775807) (.ok (.string ⟨(itoaK n).toArray⟩) H) (.bad 149 [])
  | _ => .bad 150 []
/-- functions that are not run -/
def XE : XF := fun f =>
  cond (Nat.beq f 69) (some (ckS 95)) (cond (Nat.beq f 35) (some (strS 95 5))
    (cond (Nat.beq f 34) (some itoaS) none))
end
theorem decK_eq : ∀ (f n : Nat), n < 10 ^ (f + 1) → decK (f + 1) n = Lib.decDigits n
  | 0, n, h => by
    have h9 : n ≤ 9 := by simpa using Nat.le_of_lt_succ h
    rw [Lib.decDigits, dif_pos (by omega)]
    show cond (Nat.ble n 9) _ _ = _
    rw [Nat.ble_eq_true_of_le h9]; rfl
  | f + 1, n, h => by
    rw [Lib.decDigits]
    show cond (Nat.ble n 9) _ (catL (decK (f + 1) (n / 10)) _) = _
    by_cases h9 : n ≤ 9
    · rw [Nat.ble_eq_true_of_le h9, dif_pos (by omega)]; rfl
    · have h8 : Nat.ble n 9 = false := by
        cases e : Nat.ble n 9 with
        | false => rfl
        | true => exact absurd (of_ble e) h9
      rw [h8, dif_neg (by omega), cond_f, catL_eq, decK_eq f (n / 10) (by rw [Nat.pow_succ] at h; omega)]
      rfl
theorem itoaK_eq (n : Int) (h0 : -9223372036854775808 ≤ n) (h1 : n ≤ 9223372036854775807) : itoaK n = Lib.itoa n := by
  unfold Lib.itoa
  cases n with
  | ofNat m =>
    have : ¬ (Int.ofNat m < 0) := by simp
    rw [if_neg this]
    show decK 20 m = _
    rw [decK_eq 19 m (by have : (m : Int) ≤ 9223372036854775807 := h1; omega)]; rfl
  | negSucc m =>
    rw [if_pos (by omega)]
    show 45 :: decK 20 (m + 1) = _
    rw [decK_eq 19 (m + 1) (by omega)]; rfl
/-- rows that stand from the start -/
def baseOf (w0 : World) : Base := ⟨fun _ => none, fun r => w0.heap[r]?⟩
theorem tabIs_row {P : Program} {w w' : World} {name : String} {k : IntKind} {zs : List Int} (h : Lib.TabIs P w name k zs) (hb : ∀ (r : Nat) (o : Obj), w.heap[r]? = some o → w'.heap[r]? = some o) : Lib.TabIs P w' name k zs := by
  unfold Lib.TabIs World.var? at *
  cases hg : P.globalNamed name with
  | none => simp [hg] at h
  | some g =>
    simp only [hg, Option.bind_some] at h ⊢
    cases hh : w.heap[g]? with
    | none => rw [hh] at h; simp at h
    | some o => rw [hb g o hh]; rw [hh] at h; exact h
theorem maxAt_row {w w' : World} (h : MaxAt w) (hb : ∀ (r : Nat) (o : Obj), w.heap[r]? = some o → w'.heap[r]? = some o) : MaxAt w' := by
  obtain ⟨m, hm⟩ := h
  refine ⟨m, ?_⟩
  have hlt := World.block_lt_of_cell? _ _ hm
  have h1 : w.heap[0]? = some (w.heap[0]) := Array.getElem?_eq_getElem hlt
  have h2 := hb _ _ h1
  unfold World.cell? at *
  rw [h2]; rw [h1] at hm; exact hm
theorem env_row {w0 w : World} (hE : Env w0) (h : ∀ (r : Nat) (o : Obj), w0.heap[r]? = some o → w.heap[r]? = some o) : Env w := ⟨maxAt_row hE.max h, tabIs_row hE.tab h⟩

section
variable {w0 : World}
theorem two_args {β : Bij} {x y : Value} {args' : Array Value} (hl : VL β [x, y] args'.toList) : ∃ u v, args' = #[u, v] ∧ VR β x u ∧ VR β y v := by
  obtain ⟨u, r, e, h1, h2⟩ := hl.uncons
  obtain ⟨v, r2, e2, h3, h4⟩ := h2.uncons
  obtain rfl : r2 = [] := by have := h4.1; simpa using this.symm
  subst e2
  exact ⟨u, v, Array.toList_inj.1 e, h1, h3⟩
theorem xe_ok (hE : Env w0) : letI : Inhabited Base := ⟨baseOf w0⟩; XOk Tryd.prog XE := by
  letI : Inhabited Base := ⟨baseOf w0⟩
  intro f k hk args H v H' h β w args' hw hr hl
  have hrow : ∀ (r : Nat) (o : Obj), w0.heap[r]? = some o → w.heap[r]? = some o := fun r o e => hr.fix r o e
  have hEw := env_row hE hrow
  unfold XE at hk
  rcases cond_split hk with ⟨h1, h2⟩ | ⟨_, hk⟩
  · have h1 := of_beq h1
    subst h1
    cases h2
    exact ck_ok bld_ok h hw hr hl
  rcases cond_split hk with ⟨h1, h2⟩ | ⟨_, hk⟩
  · have h1 := of_beq h1
    subst h1
    cases h2
    exact str_ok bld_ok h hw hr hl
  rcases cond_split hk with ⟨h1, h2⟩ | ⟨_, hk⟩
  · have h1 := of_beq h1
    subst h1
    cases h2
    unfold itoaS at h
    split at h
    · rename_i n
      rcases cond_split h with ⟨h3, h4⟩ | ⟨_, h4⟩
      · obtain ⟨h5, h6⟩ := and_split h3
        rw [leI_eq] at h5 h6
        have h5 : -9223372036854775808 ≤ n := of_decide_eq_true h5
        have h6 : n ≤ 9223372036854775807 := of_decide_eq_true h6
        cases h4
        rw [itoaK_eq n h5 h6]
        exact pure_post (fun x hx => by rcases List.mem_singleton.1 hx with rfl; rfl) (fun β => .atom rfl) (itoa_all n w h5 h6 hEw) hw hr hl
      · cases h4
    · cases h
  cases hk
/-- a run without arguments that tells true -/
theorem run_env (hE : Env w0) (n : Nat) (f : FuncId) (h : okT (callX Tryd.prog XE n f [] Hp.none) = true) : Calls Tryd.prog f #[] w0 fun e w' => e = .returned (.bool true) ∧ Below w0.heap.size w0 w' := by
  obtain ⟨H, h1⟩ := okT_inv h
  letI : Inhabited Base := ⟨baseOf w0⟩
  have hr : HR (Ab Hp.none.ban) (fun _ => none) Hp.none w0 := ⟨fun b k h => (by cases h), fun b k q h => (by cases h), fun b b' k k' q q' h => (by cases h), fun b k h => (by cases h), fun r o e => e, fun b k h => (by cases h)⟩
  have hl : VL (fun _ => none) [] (#[] : Array Value).toList := VL.nil _
  refine (run_from (xe_ok hE) (fun call hc => region_ok mixed hc) n f [] h1 none_WF hr hl).mono ?_
  rintro e w' ⟨β', v', rfl, h1, h2, h3, h4⟩
  refine ⟨by rw [h1.of_flat rfl], h2.os, h2.tape, h2.output, h2.size, fun k hk => h2.block k hk (fun b k' q hb => by cases hb)⟩
/-- the end of a run that tells true -/
theorem suffix_env {w : World} (hE : Env w) {fn : Func} {n : Nat} {c1 c2 : Code} {l : List (Nat × Value)} (hrun : okT (sufS Tryd.prog XE (n + 1) fn (.seq c1 c2) (slotS l) Hp.none) = true)
    (hok : codeOk fn.ntmps (.seq c1 c2) = true) (hN : fn.ntmps ≤ 1000) {a : Act} (ha : a.tmps.size = fn.ntmps) (hd : a.defers = []) (hl : ∀ p, p ∈ l → p.1 < 1000 ∧ flatV p.2 = true ∧ a.tmps.getD p.1 undef = p.2)
    {Q : Exit → Act → World → Prop} {K : Act → World → Prop} (hk : ∀ a w, Code.wp Tryd.prog c2 Q a w → K a w)
    (hQ : ∀ e a' w', bodyPost Tryd.prog fn (fun e w' => e = .returned (.bool true) ∧ Below w.heap.size w w') e a' w' → Q e a' w') : Code.wp Tryd.prog c1 (Exit.then K Q) a w := by
  obtain ⟨H, h1⟩ := okT_inv hrun
  letI : Inhabited Base := ⟨baseOf w⟩
  have hr : HR (Ab Hp.none.ban) (fun _ => none) Hp.none w := ⟨fun b k h => (by cases h), fun b k q h => (by cases h), fun b b' k k' q q' h => (by cases h), fun b k h => (by cases h), fun r o e => e, fun b k h => (by cases h)⟩
  have hs : S fn.ntmps (fun _ => none) (slotS l) Hp.none a w := ⟨none_WF, hr, slot_RR (by omega) l (fun p hp => ⟨(hl p hp).1, by rw [(hl p hp).2.2]; exact .flat (hl p hp).2.1⟩), slot_wide l, hN, by omega, by omega, hd⟩
  refine suffix_ok (xe_ok hE) (fun call hc => region_ok mixed hc) h1 hok hs hk (fun e a' w' hb => hQ e a' w' ?_)
  have conv : ∀ e w', CallPost (fun _ => none) Hp.none w (.bool true) H e w' → e = .returned (.bool true) ∧ Below w.heap.size w w' := by
    rintro e w' ⟨β', v', rfl, h1, h2, h3, h4⟩
    exact ⟨by rw [h1.of_flat rfl], h2.os, h2.tape, h2.output, h2.size, fun k hk => h2.block k hk (fun b k' q hb => by cases hb)⟩
  unfold bodyPost at hb ⊢
  cases e <;> first | exact hb | (obtain ⟨h5, u, h6, h7⟩ := hb; exact ⟨h5, u, h6, conv _ _ h7⟩) | (obtain ⟨h5, h7⟩ := hb; exact ⟨h5, conv _ _ h7⟩) | exact conv _ _ hb
end
end Go.Proofs.YtbampnmobbgbaaaDoor
