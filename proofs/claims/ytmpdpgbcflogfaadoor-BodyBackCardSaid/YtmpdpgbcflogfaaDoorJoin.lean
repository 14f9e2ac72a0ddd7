/- Join: pieces joined to a text. -/
import Derived.Test.YtmpdpgbcflogfaaDoorCut2
import Derived.Test.YtmpdpgbcflogfaaDoorBuilder
import Derived.Lib.AppendIntMem
namespace Go.Proofs.YtmpdpgbcflogfaaDoor
open Go.RowKit
set_option linter.unusedVariables false

/-- what the laid variables give the walks -/
structure Env (w : World) : Prop where
  max : MaxAt w
  tab : Lib.TabIs Tryd.prog w "internal/strconv.uint64pow10" .u64 Lib.pow10Tab

theorem tabIs_below {P : Program} {w w' : World} {name : String} {k : IntKind} {zs : List Int} (h : Lib.TabIs P w name k zs) (hb : Below w.heap.size w w') : Lib.TabIs P w' name k zs := by
  unfold Lib.TabIs World.var? at *
  cases hg : P.globalNamed name with
  | none => simp [hg] at h
  | some g =>
    simp only [hg, Option.bind_some] at h ⊢
    have hlt : g < w.heap.size := by
      rcases Nat.lt_or_ge g w.heap.size with h' | h'
      · exact h'
      · rw [Array.getElem?_eq_none h'] at h; simp at h
    rw [hb.block g hlt]
    exact h
theorem Env.below {w w' : World} (h : Env w) (hb : Below w.heap.size w w') : Env w' := ⟨h.max.below hb, tabIs_below h.tab hb⟩

/-- a slice of pieces -/
def PcsV (w : World) (v : Value) (L : List Pc) : Prop := CellsV w v L.length (pcs L)

theorem PcsV.below {w w' : World} {v : Value} {L : List Pc} (h : PcsV w v L) (hb : Below w.heap.size w w') : PcsV w' v L := CellsV.below h hb

theorem CellsV.of_owns4 {w : World} {base : Nat} {e : TypeId} {v : Value} {n : Nat} {xs : List Value} (h : w.ownsRow base e 4 v n xs) : CellsV w v n xs := by
  obtain ⟨h1, h2⟩ := h
  rcases h2 with ⟨rfl, h0⟩ | ⟨g, cap, cur, rfl, hg, hh, hn, hc, hs, ht⟩
  · refine ⟨none, 0, by rw [h0], by omega, by omega, fun _ => rfl, fun i hi => ?_⟩
    omega
  · refine ⟨_, cap, rfl, hn, by unfold maxLen at hc; omega, (fun h => by cases h), fun i hi => ?_⟩
    refine ⟨g, 0, rfl, ?_⟩
    rw [cell_of_row w g _ cur e (0, 0) hh]
    have hcs : i < cur.size := by omega
    rw [List.getD_eq_getElem?_getD, ← ht, List.getElem?_take, if_pos (by omega)]
    simp [hcs]
theorem PcsV.of_owns {w : World} {base : Nat} {v : Value} {L : List Pc} (h : w.ownsRow base 28 4 v L.length (pcs L)) : PcsV w v L := CellsV.of_owns4 h

def noPc : Pc := ⟨0, ByteArray.empty, 0, ByteArray.empty⟩
theorem pcs_getD (L : List Pc) : ∀ i, i < L.length → (pcs L).getD (i * 4) undef = .int .i64 (L.getD i noPc).kind ∧ (pcs L).getD (i * 4 + 1) undef = .string (L.getD i noPc).text ∧ (pcs L).getD (i * 4 + 2) undef = .int .i64 (L.getD i noPc).num ∧ (pcs L).getD (i * 4 + 3) undef = .string (L.getD i noPc).tag := by
  induction L with
  | nil => intro i hi; exact absurd hi (Nat.not_lt_zero _)
  | cons p L ih =>
    intro i hi
    have e : pcs (p :: L) = p.cells ++ pcs L := by unfold pcs; rw [List.flatMap_cons]
    rw [e]
    cases i with
    | zero => exact ⟨rfl, rfl, rfl, rfl⟩
    | succ i =>
      obtain ⟨h1, h2, h3, h4⟩ := ih i (by simpa using hi)
      have e2 : ∀ j, (p.cells ++ pcs L).getD ((i + 1) * 4 + j) undef = (pcs L).getD (i * 4 + j) undef := by
        intro j
        rw [List.getD_eq_getElem?_getD, List.getD_eq_getElem?_getD, List.getElem?_append_right (by simp [Pc.cells]; omega)]
        congr 2
        simp [Pc.cells]; omega
      have e3 : (p :: L).getD (i + 1) noPc = L.getD i noPc := rfl
      rw [e3]
      exact ⟨(e2 0).trans h1, (e2 1).trans h2, (e2 2).trans h3, (e2 3).trans h4⟩

theorem PcsV.open {w : World} {v : Value} {L : List Pc} (h : PcsV w v L) : ∃ a n c, v = .slice a n c ∧ Hid (n = L.length) ∧ n ≤ c ∧ c ≤ 9223372036854775807 ∧
    Hid (∀ i, i < n → ∃ b off, a = some ⟨b, off, none⟩ ∧ w.cell? ⟨b, off + i * 4, none⟩ = some (.int .i64 (L.getD i noPc).kind) ∧ w.cell? ⟨b, off + i * 4 + 1, none⟩ = some (.string (L.getD i noPc).text) ∧ w.cell? ⟨b, off + i * 4 + 2, none⟩ = some (.int .i64 (L.getD i noPc).num) ∧ w.cell? ⟨b, off + i * 4 + 3, none⟩ = some (.string (L.getD i noPc).tag)) := by
  obtain ⟨a, c, hv, hn, hc, _, hx⟩ := h
  refine ⟨a, _, c, hv, Lib.hid rfl, hn, hc, Lib.hid (fun i hi => ?_)⟩
  have hl := pcs_len L
  obtain ⟨h1, h2, h3, h4⟩ := pcs_getD L i hi
  obtain ⟨b, off, ha, hc0⟩ := hx (i * 4) (by omega)
  have hcj : ∀ j, j < (pcs L).length → w.cell? ⟨b, off + j, none⟩ = some ((pcs L).getD j undef) := fun j hj => by
    obtain ⟨b2, off2, ha2, hc2⟩ := hx j hj
    rw [ha] at ha2
    cases ha2
    exact hc2
  refine ⟨b, off, ha, ?_, ?_, ?_, ?_⟩
  · rw [← h1]; exact hc0
  · rw [← h2, Nat.add_assoc]; exact hcj _ (by omega)
  · rw [← h3, Nat.add_assoc]; exact hcj _ (by omega)
  · rw [← h4, Nat.add_assoc]; exact hcj _ (by omega)

/-- may a piece be? -/
def mayB (p : Pc) : Bool := decide (1 ≤ p.kind ∧ p.kind ≤ 3 ∧ 0 ≤ p.num ∧ p.num ≤ 999 ∧ (p.tag.size = 0 ∨ isNameB p.tag = true))

theorem str_empty {t : ByteArray} (h : t.size = 0) : t.toList = [] := by
  apply List.eq_nil_of_length_eq_zero
  rw [Lib.toList_data]; exact h
theorem str_some {t : ByteArray} (h : ¬ t.size = 0) : t.toList.isEmpty = false := by
  rw [List.isEmpty_eq_false_iff, Lib.toList_data]
  intro e
  exact h (by have := congrArg List.length e; simpa using this)

set_option maxRecDepth 100000 in
theorem mayBe_any (p : Pc) (w : World) (ht : p.tag.size ≤ 1000000) :
    Calls Tryd.prog 32 #[p.agg] w fun e w' => e = .returned (.bool (mayB p)) ∧ Below w.heap.size w w' := by
  have HR : Hid (mayB p = decide (1 ≤ p.kind ∧ p.kind ≤ 3 ∧ 0 ≤ p.num ∧ p.num ≤ 999 ∧ (p.tag.size = 0 ∨ isNameB p.tag = true))) := Lib.hid rfl
  generalize mayB p = R at HR ⊢
  have hI := fun W => isName_any p.tag W ht
  unfold Pc.agg
  obtain ⟨kd, tx, nm, tg⟩ := p
  simp only at HR hI ⊢
  have HI := Lib.hid hI
  clear hI ht
  by_cases h0 : tg.size = 0
  · have d1 := str_empty h0
    have HR2 : Hid (R = decide (1 ≤ kd ∧ kd ≤ 3 ∧ 0 ≤ nm ∧ nm ≤ 999)) := Lib.hid (by rw [HR.out]; simp [h0])
    clear HR h0
    go_enter Tryd.func32, Tryd.ntmps32
    go_wp2_with (first | (go_at_call 50; refine (HI.out _).mono ?_; rintro e w' ⟨rfl, rfl⟩))
    all_goals
      go_ret
      exact ⟨ret_bool (by rw [HR2.out, Bool.eq_iff_iff]; simp at *; omega), (Below.refl _ _).alloc (Nat.le_refl _) _⟩
  · have d1 := str_some h0
    have HR2 : Hid (R = decide (1 ≤ kd ∧ kd ≤ 3 ∧ 0 ≤ nm ∧ nm ≤ 999 ∧ isNameB tg = true)) := Lib.hid (by rw [HR.out]; simp [h0])
    clear HR h0
    cases hnb : isNameB tg with
    | true =>
      rw [hnb] at HI HR2
      clear hnb
      go_enter Tryd.func32, Tryd.ntmps32
      go_wp2_with (first | (go_at_call 50; refine (HI.out _).mono ?_; rintro e w' ⟨rfl, rfl⟩))
      all_goals
        go_ret
        exact ⟨ret_bool (by rw [HR2.out, Bool.eq_iff_iff]; simp at *; omega), (Below.refl _ _).alloc (Nat.le_refl _) _⟩
    | false =>
      rw [hnb] at HI HR2
      have HR3 : Hid (R = false) := Lib.hid (by rw [HR2.out]; simp)
      clear hnb HR2
      go_enter Tryd.func32, Tryd.ntmps32
      go_wp2_with (first | (go_at_call 50; refine (HI.out _).mono ?_; rintro e w' ⟨rfl, rfl⟩))
      all_goals
        go_ret
        exact ⟨ret_bool (by rw [HR3.out]; try simp), (Below.refl _ _).alloc (Nat.le_refl _) _⟩

theorem ba_empty (a : ByteArray) : a ++ ByteArray.empty = a := by
  apply ByteArray.ext; rw [ByteArray.data_append]; simp [ByteArray.empty, ByteArray.emptyWithCapacity]; rfl

def numT (n : Int) : ByteArray := ⟨(Lib.itoa n).toArray⟩
theorem numT_size (n : Int) (h0 : 0 ≤ n) (h1 : n ≤ 999) : (numT n).size ≤ 3 := by
  obtain ⟨k, rfl⟩ := Int.eq_ofNat_of_zero_le h0
  have e : (numT (k : Int)).size = Lib.nDigits k := by
    show (Lib.itoa (k : Int)).toArray.size = _
    unfold Lib.itoa
    rw [if_neg (by omega)]
    simp [Lib.decDigits_length]
  rw [e, Lib.nDigits]
  split
  · omega
  · rw [Lib.nDigits]
    split
    · omega
    · rw [Lib.nDigits]
      split <;> omega
def tagB (t : ByteArray) : ByteArray := if t.size = 0 then ByteArray.empty else ⟨#[60]⟩ ++ t ++ ⟨#[62]⟩
def textP (p : Pc) : ByteArray := if p.kind = 1 then p.text else if p.kind = 2 then ⟨#[36]⟩ ++ tagB p.tag ++ ⟨#[36]⟩ else ⟨#[36]⟩ ++ tagB p.tag ++ numT p.num

theorem itoa_any (n : Int) (w : World) (h0 : 0 ≤ n) (h1 : n ≤ 1000000) (hE : Env w) :
    Calls Tryd.prog 52 #[.int .i64 n] w fun e w' => e = .returned (.string (numT n)) ∧ Below w.heap.size w w' := by
  refine (Tryd.strconv_Itoa n (by omega) (by omega) w hE.tab).mono ?_
  rintro e w' ⟨rfl, k, os, rfl⟩
  exact ⟨rfl, Lib.below_grow _ _ (Nat.le_refl _) _ _⟩

set_option maxRecDepth 100000 in
theorem textP_any (p : Pc) (w : World) (hE : Env w) (hp : mayB p = true) (ht : p.tag.size ≤ 1000000) :
    Calls Tryd.prog 34 #[p.agg] w fun e w' => e = .returned (.string (textP p)) ∧ Below w.heap.size w w' := by
  have hp' := of_decide_eq_true (p := (1 ≤ p.kind ∧ p.kind ≤ 3 ∧ 0 ≤ p.num ∧ p.num ≤ 999 ∧ (p.tag.size = 0 ∨ isNameB p.tag = true))) hp
  obtain ⟨k1, k2, n0, n1, _⟩ := hp'
  have HR : Hid (textP p = if p.kind = 1 then p.text else if p.kind = 2 then ⟨#[36]⟩ ++ tagB p.tag ++ ⟨#[36]⟩ else ⟨#[36]⟩ ++ tagB p.tag ++ numT p.num) := Lib.hid rfl
  have HB : Hid (tagB p.tag = if p.tag.size = 0 then ByteArray.empty else ⟨#[60]⟩ ++ p.tag ++ ⟨#[62]⟩) := Lib.hid rfl
  generalize textP p = R at HR ⊢
  have hI := Lib.hid (fun W (h : Env W) => itoa_any p.num W n0 (by omega) h)
  have hNz := numT_size p.num n0 n1
  have HE := Lib.hid hE
  unfold Pc.agg
  obtain ⟨kd, tx, nm, tg⟩ := p
  simp only at HR HB hI k1 k2 n0 n1 ht hNz ⊢
  clear hp hE
  generalize numT nm = N at *
  generalize tagB tg = T at *
  have hkk : kd = 1 ∨ kd = 2 ∨ kd = 3 := by omega
  clear k1 k2
  by_cases h0 : tg.size = 0
  · have d1 := str_empty h0
    have HB2 : Hid (T = ByteArray.empty) := Lib.hid (by rw [HB.out, if_pos h0])
    clear HB h0
    rcases hkk with hk | hk | hk
    · subst hk
      go_enter Tryd.func34, Tryd.ntmps34
      go_wp2_with (first | (go_at_call 52; refine (hI.out _ (HE.out.below ((Below.refl _ _).alloc (Nat.le_refl _) _))).mono ?_; rintro e w' ⟨rfl, hb⟩))
      go_ret
      exact ⟨ret_str (by rw [HR.out]; rfl), (Below.refl _ _).alloc (Nat.le_refl _) _⟩
    · subst hk
      go_enter Tryd.func34, Tryd.ntmps34
      go_wp2_with (first | (go_at_call 52; refine (hI.out _ (HE.out.below ((Below.refl _ _).alloc (Nat.le_refl _) _))).mono ?_; rintro e w' ⟨rfl, hb⟩))
      go_ret
      exact ⟨ret_str (by rw [HR.out, HB2.out]; exact (congrArg (· ++ _) (ba_empty _)).symm), (Below.refl _ _).alloc (Nat.le_refl _) _⟩
    · subst hk
      go_enter Tryd.func34, Tryd.ntmps34
      go_wp2_with (first | (go_at_call 52; refine (hI.out _ (HE.out.below ((Below.refl _ _).alloc (Nat.le_refl _) _))).mono ?_; rintro e w' ⟨rfl, hb⟩))
      go_ret
      exact ⟨ret_str (by rw [HR.out, HB2.out]; exact (congrArg (· ++ _) (ba_empty _)).symm), ((Below.refl _ _).alloc (Nat.le_refl _) _).trans (hb.mono (by simp))⟩
  · have d1 := str_some h0
    have HB2 : Hid (T = ⟨#[60]⟩ ++ tg ++ ⟨#[62]⟩) := Lib.hid (by rw [HB.out, if_neg h0])
    clear HB h0
    rcases hkk with hk | hk | hk
    · subst hk
      go_enter Tryd.func34, Tryd.ntmps34
      go_wp2_with (first | (go_at_call 52; refine (hI.out _ (HE.out.below ((Below.refl _ _).alloc (Nat.le_refl _) _))).mono ?_; rintro e w' ⟨rfl, hb⟩))
      go_ret
      exact ⟨ret_str (by rw [HR.out]; rfl), (Below.refl _ _).alloc (Nat.le_refl _) _⟩
    · subst hk
      go_enter Tryd.func34, Tryd.ntmps34
      go_wp2_with (first | (go_at_call 52; refine (hI.out _ (HE.out.below ((Below.refl _ _).alloc (Nat.le_refl _) _))).mono ?_; rintro e w' ⟨rfl, hb⟩))
      go_ret
      exact ⟨ret_str (by rw [HR.out, HB2.out]; exact rfl), (Below.refl _ _).alloc (Nat.le_refl _) _⟩
    · subst hk
      go_enter Tryd.func34, Tryd.ntmps34
      go_wp2_with (first | (go_at_call 52; refine (hI.out _ (HE.out.below ((Below.refl _ _).alloc (Nat.le_refl _) _))).mono ?_; rintro e w' ⟨rfl, hb⟩))
      go_ret
      exact ⟨ret_str (by rw [HR.out, HB2.out]; exact rfl), ((Below.refl _ _).alloc (Nat.le_refl _) _).trans (hb.mono (by simp))⟩

end Go.Proofs.YtmpdpgbcflogfaaDoor
