/- The small machine at this program: functions of the library by what they are known to tell. -/
import Derived.Test.YtmfjpdlegaimlaaGreatDoorBld
import Derived.Test.YtmfjpdlegaimlaaGreatDoorEnvZ
namespace Go.Proofs.YtmfjpdlegaimlaaGreatDoor
open Go.RowKit
set_option linter.unusedVariables false
set_option linter.unusedSimpArgs false
noncomputable section
def decK (f : Nat) : Nat → List UInt8 :=
  Nat.rec (motive := fun _ => Nat → List UInt8) (fun _ => []) (fun _ g n => cond (Nat.ble n 9) [UInt8.ofNat (Nat.add 48 n)] (catL (g (Nat.div n 10)) [UInt8.ofNat (Nat.add 48 (Nat.mod n 10))])) f
def itoaK : Int → List UInt8
  | .ofNat n => decK 20 n
  | .negSucc n => 45 :: decK 20 (Nat.succ n)
def itoaS (args : List Value) (H : Hp) : Ret := match args with
  | [.int .i64 n] => cond (leI (-9223372036854775808) n && leI n 9223372036854775807) (.ok (.string ⟨(itoaK n).toArray⟩) H) (.bad 149 [])
  | _ => .bad 150 []
def strsL (l : List Value) : Option (List (List UInt8)) := List.rec (motive := fun _ => Option (List (List UInt8))) (some []) (fun x _ r => match x, r with | .string s, some l => some (s.data.toList :: l) | _, _ => none) l
def joinT (sep : List UInt8) (l : List (List UInt8)) : List UInt8 := List.rec (motive := fun _ => List UInt8) [] (fun x _ r => catL sep (catL x r)) l
def joinK (sep : List UInt8) (l : List (List UInt8)) : List UInt8 := match l with
  | [] => []
  | x :: r => catL x (joinT sep r)
def joinL (H : Hp) (sep : List UInt8) (n : Nat) : Option (List (List UInt8)) → Ret
  | some l => cond (Nat.ble 1 n && (Nat.ble n 1000000 && Nat.ble (lenL (joinK sep l)) 1000000)) (.ok (.string ⟨(joinK sep l).toArray⟩) H) (.bad 154 [])
  | none => .bad 151 []
def joinS (args : List Value) (H : Hp) : Ret := match args with
  | [.slice none 0 _, .string _] => .ok (.string ⟨#[]⟩) H
  | [.slice (some ⟨b, off, none⟩) n _, .string sep] => match H.read b with
    | some q => joinL H sep.data.toList n ((cellsAt q off n).bind strsL)
    | none => .bad 152 []
  | _ => .bad 153 []
/-- functions that are not run -/
def XE : XF := fun f =>
  cond (Nat.beq f 68) (some (ckS 100)) (cond (Nat.beq f 49) (some (strS 100 5))
    (cond (Nat.beq f 24) (some itoaS) (cond (Nat.beq f 25) (some joinS) none)))
end
theorem decK_eq : ∀ (f n : Nat), n < 10 ^ (f + 1) → decK (f + 1) n = Lib.decDigits n
  | 0, n, h => by
    have h9 : n ≤ 9 := by simpa using Nat.le_of_lt_succ h
    rw [Lib.decDigits, dif_pos (by omega)]
    show cond (Nat.ble n 9) _ _ = _
    rw [Nat.ble_eq_true_of_le h9]; rfl
  | f + 1, n, h => by
    rw [Lib.decDigits]
    show cond (Nat.ble n 9) _ (catL (decK (f + 1) (n / 10)) _) = _
    by_cases h9 : n ≤ 9
    · rw [Nat.ble_eq_true_of_le h9, dif_pos (by omega)]; rfl
    · have h8 : Nat.ble n 9 = false := by
        cases e : Nat.ble n 9 with
        | false => rfl
        | true => exact absurd (of_ble e) h9
      rw [h8, dif_neg (by omega), cond_f, catL_eq, decK_eq f (n / 10) (by rw [Nat.pow_succ] at h; omega)]
      rfl
theorem itoaK_eq (n : Int) (h0 : -9223372036854775808 ≤ n) (h1 : n ≤ 9223372036854775807) : itoaK n = Lib.itoa n := by
  unfold Lib.itoa
  cases n with
  | ofNat m =>
    have : ¬ (Int.ofNat m < 0) := by simp
    rw [if_neg this]
    show decK 20 m = _
    rw [decK_eq 19 m (by have : (m : Int) ≤ 9223372036854775807 := h1; omega)]; rfl
  | negSucc m =>
    rw [if_pos (by omega)]
    show 45 :: decK 20 (m + 1) = _
    rw [decK_eq 19 (m + 1) (by omega)]; rfl
theorem strsL_inv : ∀ (l : List Value) (ls : List (List UInt8)), strsL l = some ls → ∃ xs : List ByteArray, l = xs.map Value.string ∧ ls = xs.map (·.data.toList)
  | [], ls, h => by cases h; exact ⟨[], rfl, rfl⟩
  | x :: r, ls, h => by
    have h' : (match (generalizing := false) x, strsL r with | .string s, some l => some (s.data.toList :: l) | _, _ => none) = some ls := h
    split at h'
    · rename_i s l hl
      cases h'
      obtain ⟨xs, h1, h2⟩ := strsL_inv r l hl
      exact ⟨s :: xs, by rw [h1]; rfl, by rw [h2]; rfl⟩
    · cases h'
theorem joinT_eq (sep : List UInt8) (l : List (List UInt8)) : joinT sep l = Lib.joinTail sep l := by
  induction l with
  | nil => rfl
  | cons x r ih =>
    show catL sep (catL x (joinT sep r)) = _
    rw [catL_eq, catL_eq, ih]
    simp [Lib.joinTail]
theorem joinK_eq (sep : List UInt8) (l : List (List UInt8)) : joinK sep l = Lib.join l sep := by
  cases l with
  | nil => rfl
  | cons x r =>
    show catL x (joinT sep r) = _
    rw [catL_eq, joinT_eq, Lib.join_cons]

/-- rows that stand from the start -/
def baseOf (w0 : World) : Base := ⟨fun _ => none, fun r => w0.heap[r]?⟩
theorem tabIs_row {P : Program} {w w' : World} {name : String} {k : IntKind} {zs : List Int} (h : Lib.TabIs P w name k zs) (hb : ∀ (r : Nat) (o : Obj), w.heap[r]? = some o → w'.heap[r]? = some o) : Lib.TabIs P w' name k zs := by
  unfold Lib.TabIs World.var? at *
  cases hg : P.globalNamed name with
  | none => simp [hg] at h
  | some g =>
    simp only [hg, Option.bind_some] at h ⊢
    cases hh : w.heap[g]? with
    | none => rw [hh] at h; simp at h
    | some o => rw [hb g o hh]; rw [hh] at h; exact h
theorem maxAt_row {w w' : World} (h : MaxAt w) (hb : ∀ (r : Nat) (o : Obj), w.heap[r]? = some o → w'.heap[r]? = some o) : MaxAt w' := by
  obtain ⟨m, hm⟩ := h
  refine ⟨m, ?_⟩
  have hlt := World.block_lt_of_cell? _ _ hm
  have h1 : w.heap[0]? = some (w.heap[0]) := Array.getElem?_eq_getElem hlt
  have h2 := hb _ _ h1
  unfold World.cell? at *
  rw [h2]; rw [h1] at hm; exact hm
theorem env_row {w0 w : World} (hE : Env w0) (h : ∀ (r : Nat) (o : Obj), w0.heap[r]? = some o → w.heap[r]? = some o) : Env w := ⟨maxAt_row hE.max h, tabIs_row hE.tab h⟩

section
variable {w0 : World}
theorem two_args {β : Bij} {x y : Value} {args' : Array Value} (hl : VL β [x, y] args'.toList) : ∃ u v, args' = #[u, v] ∧ VR β x u ∧ VR β y v := by
  obtain ⟨u, r, e, h1, h2⟩ := hl.uncons
  obtain ⟨v, r2, e2, h3, h4⟩ := h2.uncons
  obtain rfl : r2 = [] := by have := h4.1; simpa using this.symm
  subst e2
  exact ⟨u, v, Array.toList_inj.1 e, h1, h3⟩
theorem xe_ok (hE : Env w0) : letI : Inhabited Base := ⟨baseOf w0⟩; XOk Tryz.prog XE := by
  letI : Inhabited Base := ⟨baseOf w0⟩
  intro f k hk args H v H' h β w args' hw hr hl
  have hrow : ∀ (r : Nat) (o : Obj), w0.heap[r]? = some o → w.heap[r]? = some o := fun r o e => hr.fix r o e
  have hEw := env_row hE hrow
  unfold XE at hk
  rcases cond_split hk with ⟨h1, h2⟩ | ⟨_, hk⟩
  · have h1 := of_beq h1
    subst h1
    cases h2
    exact ck_ok bld_ok h hw hr hl
  rcases cond_split hk with ⟨h1, h2⟩ | ⟨_, hk⟩
  · have h1 := of_beq h1
    subst h1
    cases h2
    exact str_ok bld_ok h hw hr hl
  rcases cond_split hk with ⟨h1, h2⟩ | ⟨_, hk⟩
  · have h1 := of_beq h1
    subst h1
    cases h2
    unfold itoaS at h
    split at h
    · rename_i n
      rcases cond_split h with ⟨h3, h4⟩ | ⟨_, h4⟩
      · obtain ⟨h5, h6⟩ := and_split h3
        rw [leI_eq] at h5 h6
        have h5 : -9223372036854775808 ≤ n := of_decide_eq_true h5
        have h6 : n ≤ 9223372036854775807 := of_decide_eq_true h6
        cases h4
        rw [itoaK_eq n h5 h6]
        exact pure_post (fun x hx => by rcases List.mem_singleton.1 hx with rfl; rfl) (fun β => .atom rfl) (itoa_all n w h5 h6 hEw) hw hr hl
      · cases h4
    · cases h
  rcases cond_split hk with ⟨h1, h2⟩ | ⟨_, hk⟩
  · have h1 := of_beq h1
    subst h1
    cases h2
    unfold joinS at h
    split at h
    · rename_i c s
      cases h
      obtain ⟨u, y, rfl, hu, hy⟩ := two_args hl
      obtain rfl := hy.string
      rcases hu.slice_inv with ⟨_, _, rfl⟩ | ⟨_, a', c', e, _⟩ | ⟨b, off, kk, c', e, _⟩
      · refine (Tryz.strings_Join_none none 0 s w).mono ?_
        rintro e w' ⟨rfl, rfl⟩
        exact ⟨β, _, rfl, .atom rfl, St.refl _ _ _, hw, hr⟩
      · cases e
      · cases e
    · rename_i b off n c sep
      split at h
      · rename_i q hq
        cases hls : (cellsAt q off n).bind strsL with
        | none => rw [hls] at h; cases h
        | some ls =>
          rw [hls] at h
          have h : cond (Nat.ble 1 n && (Nat.ble n 1000000 && Nat.ble (lenL (joinK sep.data.toList ls)) 1000000)) (Ret.ok (.string ⟨(joinK sep.data.toList ls).toArray⟩) H) (.bad 154 []) = .ok v H' := h
          rcases cond_split h with ⟨h3, h4⟩ | ⟨_, h4⟩
          · cases h4
            obtain ⟨h3, h5⟩ := and_split h3
            obtain ⟨h7, h5⟩ := and_split h5
            have h3b := of_ble h3
            have h5b := of_ble h5
            have h7b := of_ble h7
            rw [lenL_eq, joinK_eq] at h5b
            rw [joinK_eq]
            obtain ⟨l, l1, l2⟩ := Option.bind_eq_some_iff.1 hls
            obtain ⟨xs, l3, l4⟩ := strsL_inv l ls l2
            obtain ⟨g1, g2, g3⟩ := cellsAt_eq l1
            have hn : xs.length = n := by rw [l3] at g3; simpa using g3
            obtain ⟨i1, i2, i3⟩ := read_inv hq
            obtain ⟨u, y, rfl, hu, hy⟩ := two_args hl
            obtain rfl := hy.string
            rcases hu.slice_inv with ⟨e, _⟩ | ⟨e, _⟩ | ⟨b', off', kk, c', e, hkk, hnc, hcm, h0, rfl⟩
            · cases e
            · omega
            · cases e
              have hrowv := hr.row b kk q hkk i1 i2 i3
              have hcells : ∀ (j : Nat) x, xs[j]? = some x → w.cell? ⟨kk.blk, off + j, none⟩ = some (.string x) := by
                intro j x hx
                have hxl : l[j]? = some (.string x) := by rw [l3]; simp [hx]
                rw [g2, List.getElem?_take] at hxl
                split at hxl
                · rw [List.getElem?_drop] at hxl
                  obtain ⟨y, hy, hv⟩ := row_cell hrowv (read_elem hq) hxl
                  rw [hy, hv.string]
                · cases hxl
              subst hn
              rw [l4] at h5b ⊢
              refine (Tryz.strings_Join kk.blk off c' xs sep w hcells (hr.dom b kk hkk).2.1 ?_ hnc (Nat.le_trans h5b (by decide))).mono ?_
              · omega
              · rintro e w' ⟨rfl, hb⟩
                have hr' : HR (Ab H.ban) β H w' := hr.world hb.size (fun b k hk => hb.block _ (hr.dom b k hk).2.1) (fun r o e => hb.block _ (lt_of_row (hr.fix r o e)))
                exact ⟨β, _, rfl, .atom rfl, ⟨hb.os, hb.tape, hb.output, hb.size, Ext.refl _, Nat.le_refl _, rfl, rfl, fun _ h => h, fun r hr _ => hb.block r hr, fun _ _ h => .inl h, fun _ q h => ⟨q, h, rfl, rfl⟩, fun _ _ h _ _ => ⟨h, rfl⟩, fun _ h => .inl h, fun b h1 h2 => by omega⟩, hw, hr'⟩
          · cases h4
      · cases h
    · cases h
  · cases hk
/-- a run without arguments that tells true -/
theorem run_env (hE : Env w0) (n : Nat) (f : FuncId) (h : okT (callX Tryz.prog XE n f [] Hp.none) = true) : Calls Tryz.prog f #[] w0 fun e w' => e = .returned (.bool true) ∧ Below w0.heap.size w0 w' := by
  obtain ⟨H, h1⟩ := okT_inv h
  letI : Inhabited Base := ⟨baseOf w0⟩
  have hr : HR (Ab Hp.none.ban) (fun _ => none) Hp.none w0 := ⟨fun b k h => (by cases h), fun b k q h => (by cases h), fun b b' k k' q q' h => (by cases h), fun b k h => (by cases h), fun r o e => e, fun b k h => (by cases h)⟩
  have hl : VL (fun _ => none) [] (#[] : Array Value).toList := VL.nil _
  refine (run_from (xe_ok hE) (fun call hc => region_ok mixed hc) n f [] h1 none_WF hr hl).mono ?_
  rintro e w' ⟨β', v', rfl, h1, h2, h3, h4⟩
  refine ⟨by rw [h1.of_flat rfl], h2.os, h2.tape, h2.output, h2.size, fun k hk => h2.block k hk (fun b k' q hb => by cases hb)⟩
end
end Go.Proofs.YtmfjpdlegaimlaaGreatDoor
