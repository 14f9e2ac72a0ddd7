/- A line that tells a list, as the program reads it. -/
import Derived.Test.YtmfjpdlegaimlaaGreatDoorDec2
import Derived.Test.YtmfjpdlegaimlaaGreatDoorApp
import Derived.Test.YtmfjpdlegaimlaaGreatDoorEmit1
namespace Go.Proofs.YtmfjpdlegaimlaaGreatDoor
open Go.RowKit
set_option linter.unusedVariables false
set_option linter.unusedSimpArgs false

theorem Tryz.infoIntD : (Tryz.prog.info? 3).map (fun i => (i.zero, i.size, i.bytes)) = some (some (.int .i64 0), 1, 8) := by kernel_rfl
/-- all words' numbers -/
def numsW : List ByteArray → Option (List Int)
  | [] => some []
  | x :: r => if (numF x).2 then (numsW r).map ((numF x).1 :: ·) else none
def tx (l : List UInt8) : ByteArray := ⟨l.toArray⟩
def varT : List UInt8 := [118, 97, 114, 32]
def midT : List UInt8 := [32, 61, 32, 91, 93, 105, 110, 116, 123]
def wordsD (s : ByteArray) : List ByteArray := Lib.splitB ⟨#[44, 32]⟩ 0 (Lib.countB s ⟨#[44, 32]⟩) s
def nameOk (s : ByteArray) : Bool := letAll s.size (gAt s) 0 && decide (s.size ≠ 0)
/-- what a line tells -/
def declF (b1 b2 b3 b4 : Bool) (nm s3 : ByteArray) : Option (ByteArray × List Int) :=
  if b1 = true ∧ b2 = true ∧ b3 = true ∧ b4 = true then (if s3.size = 0 then some (nm, []) else (numsW (wordsD s3)).map (nm, ·)) else none
def declL (s : ByteArray) : Option (ByteArray × List Int) :=
  let r1 := Lib.trimPrefix s.data.toList varT
  let c := Lib.cut r1 midT
  declF (Lib.hasPrefix s.data.toList varT) c.2.2 (nameOk (tx c.1)) (Lib.hasSuffix c.2.1 [125]) (tx c.1) (tx (Lib.trimSuffix c.2.1 [125]))
def nmOf (R : Option (ByteArray × List Int)) : ByteArray := match R with | some p => p.1 | none => ByteArray.empty
def lsOf (R : Option (ByteArray × List Int)) : List Int := match R with | some p => p.2 | none => []
theorem tx_size (l : List UInt8) : (tx l).size = l.length := by show l.toArray.size = _; simp
theorem words_len (s : ByteArray) : (wordsD s).length = Lib.countB s ⟨#[44, 32]⟩ + 1 ∧ Lib.countB s ⟨#[44, 32]⟩ ≤ s.size :=
  ⟨Lib.splitB_all _ (by decide) 0 _ s rfl, Lib.countB_le _ (by decide) _ s (Nat.le_refl _)⟩
theorem split_small (sep : ByteArray) (save : Nat) (n : Nat) : ∀ (k : Nat) (s : ByteArray), s.size ≤ n → ∀ x ∈ Lib.splitB sep save k s, x.size ≤ n
  | 0, s, h, x, hx => by
    rw [Lib.splitB_zero] at hx
    rcases List.mem_singleton.1 hx with rfl; exact h
  | k + 1, s, h, x, hx => by
    rw [Lib.splitB] at hx
    split at hx
    · rcases List.mem_singleton.1 hx with rfl; exact h
    · rcases List.mem_cons.1 hx with rfl | hx
      · rw [ByteArray.size_extract]; omega
      · exact split_small sep save n k _ (by rw [ByteArray.size_extract]; omega) x hx
theorem numsW_step (ws : List ByteArray) (k : Nat) (h : k < ws.length) : numsW (ws.drop k) = if (numF (ws.getD k ByteArray.empty)).2 then (numsW (ws.drop (k + 1))).map ((numF (ws.getD k ByteArray.empty)).1 :: ·) else none := by
  have e : ws.getD k ByteArray.empty = ws[k] := by rw [List.getD_eq_getElem?_getD, List.getElem?_eq_getElem h]; rfl
  rw [List.drop_eq_getElem_cons h, numsW, e]
theorem ret_decl {R : Option (ByteArray × List Int)} {nm : ByteArray} {v : Value} {b : Bool} (h1 : nmOf R = nm) (h2 : R.isSome = b) : Ending.returned (.tuple #[.string nm, v, .bool b]) = .returned (.tuple #[.string (nmOf R), v, .bool R.isSome]) := by rw [h1, h2]

def OwnI (base : Nat) (w : World) (v : Value) (l : List Int) : Prop := w.ownsRow base 3 1 v l.length (l.map (Value.int .i64))
theorem nums_one (l : List Int) : ∀ u ∈ l.map (Value.int .i64), u.oneCell' = true := by
  intro u hu
  obtain ⟨s, _, rfl⟩ := List.mem_map.1 hu
  rfl
theorem OwnI.nil (base : Nat) (w : World) : OwnI base w (.slice none 0 0) [] := World.ownsRow_nil _ _ _ _
theorem OwnI.below {base : Nat} {w w' : World} {v : Value} {l : List Int} (h : OwnI base w v l) (hb : Below w.heap.size w w') : OwnI base w' v l := own_below h hb
theorem OwnI.alloc {base : Nat} {w : World} {v : Value} {l : List Int} (h : OwnI base w v l) (o : Obj) : OwnI base (w.alloc o) v l := h.below ((Below.refl _ _).alloc (Nat.le_refl _) o)
theorem OwnI.one {base : Nat} {w : World} {v : Value} {l : List Int} {y : Int} (h : w.ownsRow base 3 1 v (l.length + 1) (l.map (Value.int .i64) ++ [.int .i64 y])) : OwnI base w v (l ++ [y]) := by
  unfold OwnI; simpa using h
set_option maxRecDepth 100000 in
set_option maxHeartbeats 4000000 in
theorem declL_any (s : ByteArray) (w : World) (hs : s.size ≤ 100000) (hE : MaxAt w) :
    Calls Tryz.prog 10 #[.string s] w fun e w' => ∃ v, e = .returned (.tuple #[.string (nmOf (declL s)), v, .bool (declL s).isSome]) ∧ IntsV w' v (lsOf (declL s)) ∧ Below w.heap.size w w' := by
  obtain ⟨mx, hmx⟩ := hE
  have z1 : (tx (Lib.trimPrefix s.data.toList varT)).size ≤ 100000 := by
    rw [tx_size]; have : s.data.toList.length = s.size := rfl
    unfold Lib.trimPrefix; split <;> simp <;> omega
  have HP : Hid (∀ W, Calls Tryz.prog 18 #[.string s, .string ⟨#[118, 97, 114, 32]⟩] W fun e w' => e = .returned (.tuple #[.string (tx (Lib.trimPrefix s.data.toList varT)), .bool (Lib.hasPrefix s.data.toList varT)]) ∧ W = w') := Lib.hid (fun W => (Tryz.strings_CutPrefix s ⟨#[118, 97, 114, 32]⟩ W).mono (fun e w' h => ⟨h.1, h.2.symm⟩))
  have H0 : Hid (declL s = declL s) := Lib.hid rfl
  generalize hR : declL s = R at H0 ⊢
  unfold declL at hR
  simp only at hR
  clear H0
  generalize hs1 : tx (Lib.trimPrefix s.data.toList varT) = s1 at *
  have es1 : Lib.trimPrefix s.data.toList varT = s1.data.toList := by rw [← hs1]; rfl
  rw [es1] at hR
  clear hs1 es1
  generalize Lib.hasPrefix s.data.toList varT = b1 at *
  have HC : Hid (∀ W, W.cell? ⟨0, 0, none⟩ = some (.int .i64 mx) → Calls Tryz.prog 19 #[.string s1, .string ⟨#[32, 61, 32, 91, 93, 105, 110, 116, 123]⟩] W fun e w' => e = .returned (.tuple #[.string (tx (Lib.cut s1.data.toList midT).1), .string (tx (Lib.cut s1.data.toList midT).2.1), .bool (Lib.cut s1.data.toList midT).2.2]) ∧ ∃ n, w' = W.drewN n) := Lib.hid (fun W hW => Tryz.strings_Cut s1 ⟨#[32, 61, 32, 91, 93, 105, 110, 116, 123]⟩ mx W (by omega) hW)
  have z2 : (tx (Lib.cut s1.data.toList midT).1).size ≤ 100000 ∧ (tx (Lib.cut s1.data.toList midT).2.1).size ≤ 100000 := by
    have : s1.data.toList.length = s1.size := rfl
    rw [tx_size, tx_size]; unfold Lib.cut; split <;> simp <;> omega
  have en : (Lib.cut s1.data.toList midT).2.1 = (tx (Lib.cut s1.data.toList midT).2.1).data.toList := rfl
  rw [en] at hR
  clear en
  generalize tx (Lib.cut s1.data.toList midT).1 = nm at *
  generalize tx (Lib.cut s1.data.toList midT).2.1 = s2 at *
  generalize (Lib.cut s1.data.toList midT).2.2 = b2 at *
  have HI : Hid (∀ W, Calls Tryz.prog 20 #[.string nm] W fun e w' => e = .returned (.bool (nameOk nm)) ∧ W = w') := Lib.hid (fun W => isName_any nm W (by omega))
  generalize nameOk nm = b3 at *
  have HS : Hid (∀ W, Calls Tryz.prog 21 #[.string s2, .string ⟨#[125]⟩] W fun e w' => e = .returned (.tuple #[.string (tx (Lib.trimSuffix s2.data.toList [125])), .bool (Lib.hasSuffix s2.data.toList [125])]) ∧ W = w') := Lib.hid (fun W => (Tryz.strings_CutSuffix s2 ⟨#[125]⟩ W (by omega)).mono (fun e w' h => ⟨h.1, h.2.symm⟩))
  have z3 : (tx (Lib.trimSuffix s2.data.toList [125])).size ≤ 100000 := by
    rw [tx_size]; have : s2.data.toList.length = s2.size := rfl
    unfold Lib.trimSuffix; split <;> simp <;> omega
  generalize tx (Lib.trimSuffix s2.data.toList [125]) = s3 at *
  generalize Lib.hasSuffix s2.data.toList [125] = b4 at *
  have HL : Hid (∀ W, W.cell? ⟨0, 0, none⟩ = some (.int .i64 mx) → Calls Tryz.prog 22 #[.string s3, .string ⟨#[44, 32]⟩] W fun e w' =>
      e = .returned (.slice (some ⟨W.heap.size, 0, none⟩) (wordsD s3).length (wordsD s3).length) ∧ w' = W.alloc (.cells ((wordsD s3).map Value.string).toArray 9)) := Lib.hid (fun W hW => by
    have h := Tryz.strings_Split s3 ⟨#[44, 32]⟩ mx W (by omega) hW (by decide)
    rw [(words_len s3).1]
    exact h)
  have z4 : (wordsD s3).length ≤ 100001 := by have := words_len s3; omega
  have HW : Hid (∀ x ∈ wordsD s3, x.size ≤ 100000) := Lib.hid (fun x hx => split_small _ 0 100000 _ s3 z3 x hx)
  unfold declF at hR
  generalize wordsD s3 = ws at *
  have HM := Lib.hid hmx
  obtain ⟨i0, hi0, hz0, hz1, hz2⟩ := info_parts Tryz.infoIntD
  have hlt1 := World.block_lt_of_cell? _ _ hmx
  clear z1 z2 z3 hmx
  by_cases hall : b1 = true ∧ b2 = true ∧ b3 = true ∧ b4 = true
  · rw [if_pos hall] at hR
    obtain ⟨rfl, rfl, rfl, rfl⟩ := hall
    by_cases h0 : s3.size = 0
    · rw [if_pos h0] at hR
      subst hR
      have hnl : s3.toList = [] := (nil_iff s3).2 h0
      clear h0 HW HL z4
      go_enter Tryz.func10, Tryz.ntmps10
      go_wp2_with (first
        | (go_at_call 18; refine (HP.out _).mono ?_; rintro e w1 ⟨rfl, rfl⟩)
        | (go_at_call 19; refine (HC.out _ HM.out).mono ?_; rintro e w2 ⟨rfl, n2, hw2⟩; have hb2 : Below w.heap.size w w2 := (by rw [hw2]; exact below_draws w n2); clear hw2)
        | (go_at_call 20; refine (HI.out _).mono ?_; rintro e w3 ⟨rfl, rfl⟩)
        | (go_at_call 21; refine (HS.out _).mono ?_; rintro e w4 ⟨rfl, rfl⟩))
      all_goals first
        | (exfalso; simp [hnl] at *; done)
        | (go_ret3
           exact ⟨_, rfl, IntsV.nil _, hb2⟩)
    · rw [if_neg h0] at hR
      have hnl : s3.toList.isEmpty = false := by
        cases e : s3.toList.isEmpty with
        | false => rfl
        | true => exact absurd ((nil_iff s3).1 (List.isEmpty_iff.1 e)) h0
      have HR := Lib.hid hR.symm
      clear hR
      go_enter Tryz.func10, Tryz.ntmps10
      go_wp2_with (first
        | (go_at_call 18; refine (HP.out _).mono ?_; rintro e w1 ⟨rfl, rfl⟩)
        | (go_at_call 19; refine (HC.out _ HM.out).mono ?_; rintro e w2 ⟨rfl, n2, hw2⟩; have hb2 : Below w.heap.size w w2 := (by rw [hw2]; exact below_draws w n2); clear hw2)
        | (go_at_call 20; refine (HI.out _).mono ?_; rintro e w3 ⟨rfl, rfl⟩)
        | (go_at_call 21; refine (HS.out _).mono ?_; rintro e w4 ⟨rfl, rfl⟩)
        | (go_at_call 22; refine (HL.out _ ((hb2.cell hlt1).trans HM.out)).mono ?_; rintro e w5 ⟨rfl, hw5⟩; replace hw5 := Lib.hid hw5))
      replace hw5 := hw5.out
      have hb5 : Below w.heap.size w w5 := by rw [hw5]; exact hb2.alloc hb2.size _
      have hX : ∀ (j : Nat) (y : ByteArray), ws[j]? = some y → w5.cell? ⟨w2.heap.size, j, none⟩ = some (.string y) := by
        intro j y hj
        rw [hw5, cell_top w2 _ _ _ j rfl]
        simp [hj]
      generalize w2.heap.size = B at *
      clear hw5 hb2 HP HC HI HS HL HM hlt1
      have HX := Lib.hid hX
      clear hX
      go_loopw [8, 46] (fun u i wr => ∃ (k : Nat) (xs : List Int), k ≤ ws.length ∧ i = .int .i64 k ∧ xs.length = k ∧ OwnI w5.heap.size wr u xs ∧ Below w5.heap.size w5 wr ∧ Hid (numsW ws = (numsW (ws.drop k)).map (xs ++ ·))) (fun u i _ => ws.length - (intOf i).toNat)
      case atStart => exact ⟨0, [], Nat.zero_le _, rfl, rfl, OwnI.nil _ _, Below.refl _ _, Lib.hid (by rw [List.drop_zero]; simp)⟩
      case round =>
        obtain ⟨k, xs, hk, rfl, hxk, hown, hbr, hp⟩ := hrel
        have hbs := hbr.size
        by_cases hlt : k < ws.length
        · have eX : ws[k]? = some (ws.getD k ByteArray.empty) := by rw [List.getD_eq_getElem?_getD, List.getElem?_eq_getElem hlt]; rfl
          have x0 := HX.out k _ eX
          replace x0 := (hbr.cell (World.block_lt_of_cell? _ _ x0)).trans x0
          have hxs := HW.out _ (List.mem_of_getElem? eX)
          have HNum := Lib.hid (fun (W : World) => number_any (ws.getD k ByteArray.empty) W (by omega))
          have hst := numsW_step ws k hlt
          have hp2 := hp.out
          rw [hst] at hp2
          have HP2 := Lib.hid hp2
          generalize ws.getD k ByteArray.empty = X at x0 HNum HP2
          generalize numF X = r at HNum HP2
          obtain ⟨n, ok⟩ := r
          simp only at HNum HP2
          clear HX HW eX hxs hst hp2 hp
          go_wp2_with (first
            | (go_at_call 23; refine (HNum.out _).mono ?_; rintro e w9 ⟨rfl, hb9⟩; have hown9 := hown.below hb9)
            | (at_builtin; refine wpList_append_src rfl _ _ 22 rfl w5.heap.size 3 i0 (.int .i64 0) 1 8 Tryz.underlying22 hi0 hz0 hz1 hz2 rfl (by decide) _ _ _ rfl (hown9.alloc _) _ 1 _ rfl (SrcV.new _ (.int .i64 n) _) rfl (nums_one [n]) ?c3 ?c4 ?c5 ?_))
          case c3 => unfold maxLen; omega
          case c4 => omega
          case c5 => have hs9 := hb9.size; rw [World.size_alloc]; omega
          · have hok : ok = false := by
              cases ok with
              | false => rfl
              | true => simp at *
            have eR : R = none := by rw [HR.out, HP2.out, hok]; rfl
            go_ret3
            exact ⟨_, ret_decl (R := R) (by rw [eR]; rfl) (by rw [eR]; rfl), by rw [eR]; exact IntsV.nil _, hb5.trans ((hbr.trans (hb9.mono hbr.size)).mono hb5.size)⟩
          · have hok : ok = true := by
              cases ok with
              | true => rfl
              | false => simp at *
            have hs9 := hb9.size
            intro v' w4 hown' hgrow
            have hz4 := ((hbr.trans (hb9.mono hbr.size)).alloc (by omega) _).grown hgrow (by simp; omega) (own_base hown9 (by simp))
            have HP3 : Hid (numsW ws = (numsW (ws.drop (k + 1))).map ((xs ++ [n]) ++ ·)) := Lib.hid (by
              rw [HP2.out, hok, if_pos rfl, Option.map_map]
              congr 1
              funext l
              simp)
            clear HP2
            go_wp2_with fail
            go_roundw
            case rel => exact ⟨k + 1, xs ++ [n], by omega, by go_num, by simp; omega, OwnI.one (by rw [hxk]; exact hown'), hz4, HP3⟩
            case measure => simp [intOf]; omega
        · have e1 : ws.drop k = [] := List.drop_eq_nil_of_le (by omega)
          have eR : R = some (nm, xs) := by rw [HR.out, hp.out, e1]; simp [numsW]
          clear HX HW hp
          go_wp2_with fail
          go_ret3
          exact ⟨_, ret_decl (R := R) (by rw [eR]; rfl) (by rw [eR]; rfl), by rw [eR]; exact IntsV.of_owns hown, hb5.trans (hbr.mono hb5.size)⟩
  · rw [if_neg hall] at hR
    subst hR
    have HF := Lib.hid hall
    clear HW HL z4 hall
    go_enter Tryz.func10, Tryz.ntmps10
    go_wp2_with (first
      | (go_at_call 18; refine (HP.out _).mono ?_; rintro e w1 ⟨rfl, rfl⟩)
      | (go_at_call 19; refine (HC.out _ HM.out).mono ?_; rintro e w2 ⟨rfl, n2, hw2⟩; have hb2 : Below w.heap.size w w2 := (by rw [hw2]; exact below_draws w n2); clear hw2)
      | (go_at_call 20; refine (HI.out _).mono ?_; rintro e w3 ⟨rfl, rfl⟩)
      | (go_at_call 21; refine (HS.out _).mono ?_; rintro e w4 ⟨rfl, rfl⟩)
      | (go_at_call 22; exfalso; have h9 := HF.out; clear HF HP HC HI HS HM; simp_all; done))
    all_goals first
      | (go_ret3; exact ⟨_, rfl, IntsV.nil _, by first | exact Below.refl _ _ | exact hb2⟩)
      | (exfalso; have h9 := HF.out; clear HF HP HC HI HS HM; simp_all; done)
end Go.Proofs.YtmfjpdlegaimlaaGreatDoor
