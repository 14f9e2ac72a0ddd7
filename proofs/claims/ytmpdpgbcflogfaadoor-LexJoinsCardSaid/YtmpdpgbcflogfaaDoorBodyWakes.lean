/- Join: pieces joined to a text. -/
import Derived.Test.YtmpdpgbcflogfaaDoorCut2
import Derived.Test.YtmpdpgbcflogfaaDoorBuilder
import Derived.Lib.AppendIntMem
namespace Go.Proofs.YtmpdpgbcflogfaaDoor
section
open Go.RowKit
set_option linter.unusedVariables false

/-- what the laid variables give the walks -/
structure Env (w : World) : Prop where
  max : MaxAt w
  tab : Lib.TabIs Tryd.prog w "internal/strconv.uint64pow10" .u64 Lib.pow10Tab

theorem tabIs_below {P : Program} {w w' : World} {name : String} {k : IntKind} {zs : List Int} (h : Lib.TabIs P w name k zs) (hb : Below w.heap.size w w') : Lib.TabIs P w' name k zs := by
  unfold Lib.TabIs World.var? at *
  cases hg : P.globalNamed name with
  | none => simp [hg] at h
  | some g =>
    simp only [hg, Option.bind_some] at h ⊢
    have hlt : g < w.heap.size := by
      rcases Nat.lt_or_ge g w.heap.size with h' | h'
      · exact h'
      · rw [Array.getElem?_eq_none h'] at h; simp at h
    rw [hb.block g hlt]
    exact h
theorem Env.below {w w' : World} (h : Env w) (hb : Below w.heap.size w w') : Env w' := ⟨h.max.below hb, tabIs_below h.tab hb⟩

/-- a slice of pieces -/
def PcsV (w : World) (v : Value) (L : List Pc) : Prop := CellsV w v L.length (pcs L)

theorem PcsV.below {w w' : World} {v : Value} {L : List Pc} (h : PcsV w v L) (hb : Below w.heap.size w w') : PcsV w' v L := CellsV.below h hb

theorem CellsV.of_owns4 {w : World} {base : Nat} {e : TypeId} {v : Value} {n : Nat} {xs : List Value} (h : w.ownsRow base e 4 v n xs) : CellsV w v n xs := by
  obtain ⟨h1, h2⟩ := h
  rcases h2 with ⟨rfl, h0⟩ | ⟨g, cap, cur, rfl, hg, hh, hn, hc, hs, ht⟩
  · refine ⟨none, 0, by rw [h0], by omega, by omega, fun _ => rfl, fun i hi => ?_⟩
    omega
  · refine ⟨_, cap, rfl, hn, by unfold maxLen at hc; omega, (fun h => by cases h), fun i hi => ?_⟩
    refine ⟨g, 0, rfl, ?_⟩
    rw [cell_of_row w g _ cur e (0, 0) hh]
    have hcs : i < cur.size := by omega
    rw [List.getD_eq_getElem?_getD, ← ht, List.getElem?_take, if_pos (by omega)]
    simp [hcs]
theorem PcsV.of_owns {w : World} {base : Nat} {v : Value} {L : List Pc} (h : w.ownsRow base 28 4 v L.length (pcs L)) : PcsV w v L := CellsV.of_owns4 h

def noPc : Pc := ⟨0, ByteArray.empty, 0, ByteArray.empty⟩
theorem pcs_getD (L : List Pc) : ∀ i, i < L.length → (pcs L).getD (i * 4) undef = .int .i64 (L.getD i noPc).kind ∧ (pcs L).getD (i * 4 + 1) undef = .string (L.getD i noPc).text ∧ (pcs L).getD (i * 4 + 2) undef = .int .i64 (L.getD i noPc).num ∧ (pcs L).getD (i * 4 + 3) undef = .string (L.getD i noPc).tag := by
  induction L with
  | nil => intro i hi; exact absurd hi (Nat.not_lt_zero _)
  | cons p L ih =>
    intro i hi
    have e : pcs (p :: L) = p.cells ++ pcs L := by unfold pcs; rw [List.flatMap_cons]
    rw [e]
    cases i with
    | zero => exact ⟨rfl, rfl, rfl, rfl⟩
    | succ i =>
      obtain ⟨h1, h2, h3, h4⟩ := ih i (by simpa using hi)
      have e2 : ∀ j, (p.cells ++ pcs L).getD ((i + 1) * 4 + j) undef = (pcs L).getD (i * 4 + j) undef := by
        intro j
        rw [List.getD_eq_getElem?_getD, List.getD_eq_getElem?_getD, List.getElem?_append_right (by simp [Pc.cells]; omega)]
        congr 2
        simp [Pc.cells]; omega
      have e3 : (p :: L).getD (i + 1) noPc = L.getD i noPc := rfl
      rw [e3]
      exact ⟨(e2 0).trans h1, (e2 1).trans h2, (e2 2).trans h3, (e2 3).trans h4⟩

theorem PcsV.open {w : World} {v : Value} {L : List Pc} (h : PcsV w v L) : ∃ a n c, v = .slice a n c ∧ Hid (n = L.length) ∧ n ≤ c ∧ c ≤ 9223372036854775807 ∧
    Hid (∀ i, i < n → ∃ b off, a = some ⟨b, off, none⟩ ∧ w.cell? ⟨b, off + i * 4, none⟩ = some (.int .i64 (L.getD i noPc).kind) ∧ w.cell? ⟨b, off + i * 4 + 1, none⟩ = some (.string (L.getD i noPc).text) ∧ w.cell? ⟨b, off + i * 4 + 2, none⟩ = some (.int .i64 (L.getD i noPc).num) ∧ w.cell? ⟨b, off + i * 4 + 3, none⟩ = some (.string (L.getD i noPc).tag)) := by
  obtain ⟨a, c, hv, hn, hc, _, hx⟩ := h
  refine ⟨a, _, c, hv, Lib.hid rfl, hn, hc, Lib.hid (fun i hi => ?_)⟩
  have hl := pcs_len L
  obtain ⟨h1, h2, h3, h4⟩ := pcs_getD L i hi
  obtain ⟨b, off, ha, hc0⟩ := hx (i * 4) (by omega)
  have hcj : ∀ j, j < (pcs L).length → w.cell? ⟨b, off + j, none⟩ = some ((pcs L).getD j undef) := fun j hj => by
    obtain ⟨b2, off2, ha2, hc2⟩ := hx j hj
    rw [ha] at ha2
    cases ha2
    exact hc2
  refine ⟨b, off, ha, ?_, ?_, ?_, ?_⟩
  · rw [← h1]; exact hc0
  · rw [← h2, Nat.add_assoc]; exact hcj _ (by omega)
  · rw [← h3, Nat.add_assoc]; exact hcj _ (by omega)
  · rw [← h4, Nat.add_assoc]; exact hcj _ (by omega)

/-- may a piece be? -/
def mayB (p : Pc) : Bool := decide (1 ≤ p.kind ∧ p.kind ≤ 3 ∧ 0 ≤ p.num ∧ p.num ≤ 999 ∧ (p.tag.size = 0 ∨ isNameB p.tag = true))

theorem str_empty {t : ByteArray} (h : t.size = 0) : t.toList = [] := by
  apply List.eq_nil_of_length_eq_zero
  rw [Lib.toList_data]; exact h
theorem str_some {t : ByteArray} (h : ¬ t.size = 0) : t.toList.isEmpty = false := by
  rw [List.isEmpty_eq_false_iff, Lib.toList_data]
  intro e
  exact h (by have := congrArg List.length e; simpa using this)

set_option maxRecDepth 100000 in
theorem mayBe_any (p : Pc) (w : World) (ht : p.tag.size ≤ 1000000) :
    Calls Tryd.prog 32 #[p.agg] w fun e w' => e = .returned (.bool (mayB p)) ∧ Below w.heap.size w w' := by
  have HR : Hid (mayB p = decide (1 ≤ p.kind ∧ p.kind ≤ 3 ∧ 0 ≤ p.num ∧ p.num ≤ 999 ∧ (p.tag.size = 0 ∨ isNameB p.tag = true))) := Lib.hid rfl
  generalize mayB p = R at HR ⊢
  have hI := fun W => isName_any p.tag W ht
  unfold Pc.agg
  obtain ⟨kd, tx, nm, tg⟩ := p
  simp only at HR hI ⊢
  have HI := Lib.hid hI
  clear hI ht
  by_cases h0 : tg.size = 0
  · have d1 := str_empty h0
    have HR2 : Hid (R = decide (1 ≤ kd ∧ kd ≤ 3 ∧ 0 ≤ nm ∧ nm ≤ 999)) := Lib.hid (by rw [HR.out]; simp [h0])
    clear HR h0
    go_enter Tryd.func32, Tryd.ntmps32
    go_wp2_with (first | (go_at_call 50; refine (HI.out _).mono ?_; rintro e w' ⟨rfl, rfl⟩))
    all_goals
      go_ret
      exact ⟨ret_bool (by rw [HR2.out, Bool.eq_iff_iff]; simp at *; omega), (Below.refl _ _).alloc (Nat.le_refl _) _⟩
  · have d1 := str_some h0
    have HR2 : Hid (R = decide (1 ≤ kd ∧ kd ≤ 3 ∧ 0 ≤ nm ∧ nm ≤ 999 ∧ isNameB tg = true)) := Lib.hid (by rw [HR.out]; simp [h0])
    clear HR h0
    cases hnb : isNameB tg with
    | true =>
      rw [hnb] at HI HR2
      clear hnb
      go_enter Tryd.func32, Tryd.ntmps32
      go_wp2_with (first | (go_at_call 50; refine (HI.out _).mono ?_; rintro e w' ⟨rfl, rfl⟩))
      all_goals
        go_ret
        exact ⟨ret_bool (by rw [HR2.out, Bool.eq_iff_iff]; simp at *; omega), (Below.refl _ _).alloc (Nat.le_refl _) _⟩
    | false =>
      rw [hnb] at HI HR2
      have HR3 : Hid (R = false) := Lib.hid (by rw [HR2.out]; simp)
      clear hnb HR2
      go_enter Tryd.func32, Tryd.ntmps32
      go_wp2_with (first | (go_at_call 50; refine (HI.out _).mono ?_; rintro e w' ⟨rfl, rfl⟩))
      all_goals
        go_ret
        exact ⟨ret_bool (by rw [HR3.out]; try simp), (Below.refl _ _).alloc (Nat.le_refl _) _⟩

theorem ba_empty (a : ByteArray) : a ++ ByteArray.empty = a := by
  apply ByteArray.ext; rw [ByteArray.data_append]; simp [ByteArray.empty, ByteArray.emptyWithCapacity]; rfl

def numT (n : Int) : ByteArray := ⟨(Lib.itoa n).toArray⟩
theorem numT_size (n : Int) (h0 : 0 ≤ n) (h1 : n ≤ 999) : (numT n).size ≤ 3 := by
  obtain ⟨k, rfl⟩ := Int.eq_ofNat_of_zero_le h0
  have e : (numT (k : Int)).size = Lib.nDigits k := by
    show (Lib.itoa (k : Int)).toArray.size = _
    unfold Lib.itoa
    rw [if_neg (by omega)]
    simp [Lib.decDigits_length]
  rw [e, Lib.nDigits]
  split
  · omega
  · rw [Lib.nDigits]
    split
    · omega
    · rw [Lib.nDigits]
      split <;> omega
def tagB (t : ByteArray) : ByteArray := if t.size = 0 then ByteArray.empty else ⟨#[60]⟩ ++ t ++ ⟨#[62]⟩
def textP (p : Pc) : ByteArray := if p.kind = 1 then p.text else if p.kind = 2 then ⟨#[36]⟩ ++ tagB p.tag ++ ⟨#[36]⟩ else ⟨#[36]⟩ ++ tagB p.tag ++ numT p.num

theorem itoa_any (n : Int) (w : World) (h0 : 0 ≤ n) (h1 : n ≤ 1000000) (hE : Env w) :
    Calls Tryd.prog 52 #[.int .i64 n] w fun e w' => e = .returned (.string (numT n)) ∧ Below w.heap.size w w' := by
  refine (Tryd.strconv_Itoa n (by omega) (by omega) w hE.tab).mono ?_
  rintro e w' ⟨rfl, k, os, rfl⟩
  exact ⟨rfl, Lib.below_grow _ _ (Nat.le_refl _) _ _⟩

set_option maxRecDepth 100000 in
theorem textP_any (p : Pc) (w : World) (hE : Env w) (hp : mayB p = true) (ht : p.tag.size ≤ 1000000) :
    Calls Tryd.prog 34 #[p.agg] w fun e w' => e = .returned (.string (textP p)) ∧ Below w.heap.size w w' := by
  have hp' := of_decide_eq_true (p := (1 ≤ p.kind ∧ p.kind ≤ 3 ∧ 0 ≤ p.num ∧ p.num ≤ 999 ∧ (p.tag.size = 0 ∨ isNameB p.tag = true))) hp
  obtain ⟨k1, k2, n0, n1, _⟩ := hp'
  have HR : Hid (textP p = if p.kind = 1 then p.text else if p.kind = 2 then ⟨#[36]⟩ ++ tagB p.tag ++ ⟨#[36]⟩ else ⟨#[36]⟩ ++ tagB p.tag ++ numT p.num) := Lib.hid rfl
  have HB : Hid (tagB p.tag = if p.tag.size = 0 then ByteArray.empty else ⟨#[60]⟩ ++ p.tag ++ ⟨#[62]⟩) := Lib.hid rfl
  generalize textP p = R at HR ⊢
  have hI := Lib.hid (fun W (h : Env W) => itoa_any p.num W n0 (by omega) h)
  have hNz := numT_size p.num n0 n1
  have HE := Lib.hid hE
  unfold Pc.agg
  obtain ⟨kd, tx, nm, tg⟩ := p
  simp only at HR HB hI k1 k2 n0 n1 ht hNz ⊢
  clear hp hE
  generalize numT nm = N at *
  generalize tagB tg = T at *
  have hkk : kd = 1 ∨ kd = 2 ∨ kd = 3 := by omega
  clear k1 k2
  by_cases h0 : tg.size = 0
  · have d1 := str_empty h0
    have HB2 : Hid (T = ByteArray.empty) := Lib.hid (by rw [HB.out, if_pos h0])
    clear HB h0
    rcases hkk with hk | hk | hk
    · subst hk
      go_enter Tryd.func34, Tryd.ntmps34
      go_wp2_with (first | (go_at_call 52; refine (hI.out _ (HE.out.below ((Below.refl _ _).alloc (Nat.le_refl _) _))).mono ?_; rintro e w' ⟨rfl, hb⟩))
      go_ret
      exact ⟨ret_str (by rw [HR.out]; rfl), (Below.refl _ _).alloc (Nat.le_refl _) _⟩
    · subst hk
      go_enter Tryd.func34, Tryd.ntmps34
      go_wp2_with (first | (go_at_call 52; refine (hI.out _ (HE.out.below ((Below.refl _ _).alloc (Nat.le_refl _) _))).mono ?_; rintro e w' ⟨rfl, hb⟩))
      go_ret
      exact ⟨ret_str (by rw [HR.out, HB2.out]; exact (congrArg (· ++ _) (ba_empty _)).symm), (Below.refl _ _).alloc (Nat.le_refl _) _⟩
    · subst hk
      go_enter Tryd.func34, Tryd.ntmps34
      go_wp2_with (first | (go_at_call 52; refine (hI.out _ (HE.out.below ((Below.refl _ _).alloc (Nat.le_refl _) _))).mono ?_; rintro e w' ⟨rfl, hb⟩))
      go_ret
      exact ⟨ret_str (by rw [HR.out, HB2.out]; exact (congrArg (· ++ _) (ba_empty _)).symm), ((Below.refl _ _).alloc (Nat.le_refl _) _).trans (hb.mono (by simp))⟩
  · have d1 := str_some h0
    have HB2 : Hid (T = ⟨#[60]⟩ ++ tg ++ ⟨#[62]⟩) := Lib.hid (by rw [HB.out, if_neg h0])
    clear HB h0
    rcases hkk with hk | hk | hk
    · subst hk
      go_enter Tryd.func34, Tryd.ntmps34
      go_wp2_with (first | (go_at_call 52; refine (hI.out _ (HE.out.below ((Below.refl _ _).alloc (Nat.le_refl _) _))).mono ?_; rintro e w' ⟨rfl, hb⟩))
      go_ret
      exact ⟨ret_str (by rw [HR.out]; rfl), (Below.refl _ _).alloc (Nat.le_refl _) _⟩
    · subst hk
      go_enter Tryd.func34, Tryd.ntmps34
      go_wp2_with (first | (go_at_call 52; refine (hI.out _ (HE.out.below ((Below.refl _ _).alloc (Nat.le_refl _) _))).mono ?_; rintro e w' ⟨rfl, hb⟩))
      go_ret
      exact ⟨ret_str (by rw [HR.out, HB2.out]; exact rfl), (Below.refl _ _).alloc (Nat.le_refl _) _⟩
    · subst hk
      go_enter Tryd.func34, Tryd.ntmps34
      go_wp2_with (first | (go_at_call 52; refine (hI.out _ (HE.out.below ((Below.refl _ _).alloc (Nat.le_refl _) _))).mono ?_; rintro e w' ⟨rfl, hb⟩))
      go_ret
      exact ⟨ret_str (by rw [HR.out, HB2.out]; exact rfl), ((Below.refl _ _).alloc (Nat.le_refl _) _).trans (hb.mono (by simp))⟩
end

section
open Go.RowKit
set_option linter.unusedVariables false

def joinL (L : List Pc) : List UInt8 := L.flatMap (fun p => (textP p).data.toList)
def joinS (L : List Pc) : ByteArray × Int := if L.all mayB = true then (⟨(joinL L).toArray⟩, 0) else (ByteArray.empty, 1)

theorem tagB_size (t : ByteArray) : (tagB t).size ≤ t.size + 2 := by
  unfold tagB; split
  · exact Nat.zero_le _
  · rw [ByteArray.size_append, ByteArray.size_append]
    show 1 + t.size + 1 ≤ _; omega
theorem textP_size (p : Pc) (h : mayB p = true) : (textP p).size ≤ p.text.size + p.tag.size + 6 := by
  have hp' := of_decide_eq_true (p := (1 ≤ p.kind ∧ p.kind ≤ 3 ∧ 0 ≤ p.num ∧ p.num ≤ 999 ∧ (p.tag.size = 0 ∨ isNameB p.tag = true))) h
  have h1 := tagB_size p.tag
  have h2 := numT_size p.num hp'.2.2.1 hp'.2.2.2.1
  have e1 : (⟨#[36]⟩ : ByteArray).size = 1 := rfl
  unfold textP
  split
  · omega
  · split
    · rw [ByteArray.size_append, ByteArray.size_append, e1]; omega
    · rw [ByteArray.size_append, ByteArray.size_append, e1]; omega

theorem isBuilder_below {T e : TypeId} {B b : Nat} {bs : List Value} {w w' : World} (h : Lib.IsBuilder T e B b bs w) (hb : Below w.heap.size w w') : Lib.IsBuilder T e B b bs w' := by
  rcases h with ⟨h1, v, h2, h3, h4⟩ | ⟨h1, v, h2, h3, h4⟩
  · exact .inl ⟨h1, v, block_below h2 hb (lt_of_block h2), own_below h3 hb, h4⟩
  · exact .inr ⟨h1, v, block_below h2 hb (lt_of_block h2), own_below h3 hb, h4⟩

theorem joinL_snoc {L : List Pc} {k : Nat} (hk : k < L.length) : joinL (L.take (k + 1)) = joinL (L.take k) ++ (textP (L.getD k noPc)).data.toList := by
  unfold joinL
  rw [List.take_succ_eq_append_getElem hk, List.flatMap_append, List.getD_eq_getElem?_getD, List.getElem?_eq_getElem hk]
  simp
theorem all_snoc {L : List Pc} {k : Nat} (hk : k < L.length) : (L.take (k + 1)).all mayB = ((L.take k).all mayB && mayB (L.getD k noPc)) := by
  rw [List.take_succ_eq_append_getElem hk, List.all_append, List.getD_eq_getElem?_getD, List.getElem?_eq_getElem hk]
  simp
theorem all_not {L : List Pc} {k : Nat} (hk : k < L.length) (h : mayB (L.getD k noPc) = false) : ¬ L.all mayB = true := by
  intro h2
  rw [List.all_eq_true] at h2
  have := h2 L[k] (List.getElem_mem hk)
  rw [List.getD_eq_getElem?_getD, List.getElem?_eq_getElem hk] at h
  simp at h
  rw [h] at this
  cases this

/-- pieces whose texts are not too long -/
def Small (L : List Pc) : Prop := L.length ≤ 1000 ∧ ∀ p ∈ L, p.text.size ≤ 1000000 ∧ p.tag.size ≤ 1000000
theorem Small.at {L : List Pc} (h : Small L) {k : Nat} (hk : k < L.length) : (L.getD k noPc).text.size ≤ 1000000 ∧ (L.getD k noPc).tag.size ≤ 1000000 := by
  rw [List.getD_eq_getElem?_getD, List.getElem?_eq_getElem hk]
  exact h.2 _ (List.getElem_mem hk)

set_option maxRecDepth 100000 in
set_option maxHeartbeats 1000000 in
theorem join_any (v : Value) (L : List Pc) (w : World) (h : PcsV w v L) (hE : Env w) (hs : Small L) :
    Calls Tryd.prog 18 #[v] w fun e w' => e = .returned (.tuple #[.string (joinS L).1, .int .i64 (joinS L).2]) ∧ Below w.heap.size w w' := by
  obtain ⟨a, n, c, rfl, hn, hnc, hc, hx⟩ := h.open
  have HS := Lib.hid hs
  have hn1 : n ≤ 1000 := by rw [hn.out]; exact hs.1
  have HE := Lib.hid hE
  have HR : Hid (joinS L = if L.all mayB = true then (⟨(joinL L).toArray⟩, 0) else (ByteArray.empty, 1)) := Lib.hid rfl
  generalize joinS L = R at HR ⊢
  clear h hs hE
  go_enter Tryd.func18, Tryd.ntmps18
  go_wp2_with fail
  go_loopw [9] (fun x wr => ∃ k : Nat, k ≤ n ∧ x = .int .i64 k ∧ Hid ((L.take k).all mayB = true) ∧ (joinL (L.take k)).length ≤ k * 2000010 ∧ Lib.IsBuilder 60 5 w.heap.size w.heap.size (Lib.byteCells (joinL (L.take k))) wr ∧ Below w.heap.size w wr) (fun x _ => n + 1 - (intOf x).toNat)
  case atStart => exact ⟨0, by omega, rfl, Lib.hid rfl, by simp [joinL], Lib.fresh_isBuilder _ _ w, (Below.refl _ _).alloc (Nat.le_refl _) _⟩
  case round =>
    obtain ⟨k, hk, rfl, hal, hlen, hbd, hb⟩ := hrel
    have HBd := Lib.hid hbd
    clear hbd
    have hs1 := hb.size
    by_cases hlt : k < n
    · obtain ⟨b, o, rfl, c0, c1, c2, c3⟩ := hx.out k hlt
      have hblt := World.block_lt_of_cell? _ _ c0
      replace c0 := (hb.cell (p := ⟨b, o + k * 4, none⟩) hblt).trans c0
      replace c1 := (hb.cell (p := ⟨b, o + k * 4 + 1, none⟩) hblt).trans c1
      replace c2 := (hb.cell (p := ⟨b, o + k * 4 + 2, none⟩) hblt).trans c2
      replace c3 := (hb.cell (p := ⟨b, o + k * 4 + 3, none⟩) hblt).trans c3
      have hkL : k < L.length := by have := hn.out; omega
      obtain ⟨hz1, hz2⟩ := HS.out.at hkL
      have HJ := Lib.hid (joinL_snoc hkL)
      have HA := Lib.hid (all_snoc hkL)
      have HN := Lib.hid (all_not hkL)
      have hmb := fun W => mayBe_any (L.getD k noPc) W hz2
      have htx := fun W (hW : Env W) (hp : mayB (L.getD k noPc) = true) => textP_any (L.getD k noPc) W hW hp hz2
      have hts := textP_size (L.getD k noPc)
      generalize L.getD k noPc = p at c0 c1 c2 c3 hz1 hz2 HJ HA HN hmb htx hts
      obtain ⟨kd, tx, nm, tg⟩ := p
      simp only [Pc.agg] at c0 c1 c2 c3 hz1 hz2 hmb htx hts
      have HMB := Lib.hid hmb
      have HTX := Lib.hid htx
      have HTS := Lib.hid hts
      clear hmb htx hts
      go_wp2_with fail
      have hbx : (wr.alloc (.cells #[.int .i64 kd, .string tx, .int .i64 nm, .string tg] 28)).heap[wr.heap.size]? = some (.cells #[.int .i64 kd, .string tx, .int .i64 nm, .string tg] 28 (0, 0)) := heap_alloc_new _ _
      have hbB := hb.alloc hs1 (.cells #[.int .i64 kd, .string tx, .int .i64 nm, .string tg] 28)
      have hBd2 := isBuilder_below HBd.out ((Below.refl wr.heap.size wr).alloc (Nat.le_refl _) (.cells #[.int .i64 kd, .string tx, .int .i64 nm, .string tg] 28))
      generalize wr.alloc (.cells #[.int .i64 kd, .string tx, .int .i64 nm, .string tg] 28) = wB at hbx hbB hBd2 ⊢
      generalize wr.heap.size = B at hbx ⊢
      have HBd2 := Lib.hid hBd2
      clear hBd2 HBd c0 c1 c2 c3 hb hs1
      refine (HMB.out _).mono ?_
      rintro e w3 ⟨rfl, hb3⟩
      cases hm : mayB ⟨kd, tx, nm, tg⟩ with
      | true =>
        have hbx3 := block_below hbx hb3 (lt_of_block hbx)
        have hb4 := hbB.trans (hb3.mono hbB.size)
        have HBd3 := Lib.hid (isBuilder_below HBd2.out hb3)
        have d0 : w3.cell? ⟨B, 0, none⟩ = some (.int .i64 kd) := by rw [cell_of_row w3 B 0 _ _ (0, 0) hbx3]; rfl
        have d1 : w3.cell? ⟨B, 1, none⟩ = some (.string tx) := by rw [cell_of_row w3 B 1 _ _ (0, 0) hbx3]; rfl
        have d2 : w3.cell? ⟨B, 2, none⟩ = some (.int .i64 nm) := by rw [cell_of_row w3 B 2 _ _ (0, 0) hbx3]; rfl
        have d3 : w3.cell? ⟨B, 3, none⟩ = some (.string tg) := by rw [cell_of_row w3 B 3 _ _ (0, 0) hbx3]; rfl
        have hE3 := HE.out.below hb4
        have htp := HTS.out hm
        have HA2 : Hid ((L.take (k + 1)).all mayB = true) := Lib.hid (by rw [HA.out, hal.out, hm]; rfl)
        have htx2 := Lib.hid (HTX.out _ hE3 hm)
        clear hbx hb3 hbB HBd2 hE3 hm HA HN
        generalize textP ⟨kd, tx, nm, tg⟩ = T at htp HJ htx2
        go_wp2_with fail
        refine htx2.out.mono ?_
        rintro e w5 ⟨rfl, hb5⟩
        have hb6 := hb4.trans (hb5.mono hb4.size)
        have HBd5 := isBuilder_below HBd3.out hb5
        clear hb5 hb4 HBd3
        go_wp2_with fail
        refine (writeString_any w.heap.size w.heap.size _ T w5 HBd5 (by rw [Lib.byteCells_length]; omega) hb6.size).mono ?_
        rintro e w7 ⟨rfl, hBd7, hb7⟩
        go_wp2_with fail
        go_roundw
        case rel => exact ⟨k + 1, by omega, by go_num, HA2, by rw [HJ.out, List.length_append]; have : T.data.toList.length = T.size := rfl; omega, .inr (by rw [HJ.out, Lib.byteCells_append]; exact hBd7), hb6.trans hb7⟩
        case measure => simp [intOf]; omega
      | false =>
        have hb4 := hbB.trans (hb3.mono hbB.size)
        have HR2 : Hid (R = (ByteArray.empty, 1)) := Lib.hid (by rw [HR.out, if_neg (HN.out hm)])
        clear hm
        go_wp2_with fail
        go_ret2
        exact ⟨by rw [HR2.out]; rfl, hb4⟩
    · obtain rfl : k = n := by omega
      have e1 : L.take k = L := List.take_of_length_le (by have := hn.out; omega)
      rw [e1] at hal HBd
      have HR2 : Hid (R = (⟨(joinL L).toArray⟩, 0)) := Lib.hid (by rw [HR.out, if_pos hal.out])
      clear e1 hal hlen
      go_wp2_with fail
      refine (Tryd.Builder_String_any w.heap.size w.heap.size (joinL L) wr HBd.out hs1).mono ?_
      rintro e w7 ⟨rfl, hb7⟩
      go_wp2_with fail
      go_ret2
      exact ⟨by rw [HR2.out]; rfl, hb.trans hb7⟩
end

section
open Go.RowKit
set_option linter.unusedVariables false

def s1 : ByteArray := ⟨#[123, 36, 36, 61, 36, 49, 125]⟩
theorem k1 : (cutS s1).2 = 0 := by decide +kernel
theorem k2 : (cutS s1).1.length = 5 := by decide +kernel
theorem k3 : ((cutS s1).1.getD 1 noPc).kind = 2 := by decide +kernel
theorem k4 : ((cutS s1).1.getD 3 noPc).num = 1 := by decide +kernel
theorem k5 : (joinS (cutS s1).1).1 = s1 := by decide +kernel
theorem k6 : (joinS (cutS s1).1).2 = 0 := by decide +kernel
theorem k7 : ((cutS s1).1.all fun p => decide (p.text.size ≤ 1000000) && decide (p.tag.size ≤ 1000000)) = true := by decide +kernel
theorem k8 : (cutS ⟨#[120]⟩).2 = 1 := by decide +kernel
theorem k9 : endS ⟨#[97, 123, 98, 125]⟩ 1 = 4 := by decide +kernel
theorem k10 : endS ⟨#[123]⟩ 0 = -1 := by decide +kernel

theorem CutTells.pcs {s : ByteArray} {w w' : World} {e : Ending} (h : CutTells s w e w') : ∃ v, e = .returned (.tuple #[v, .int .i64 (cutS s).2]) ∧ PcsV w' v (cutS s).1 ∧ Below w.heap.size w w' := by
  obtain ⟨v, h1, h2, h3⟩ := h
  exact ⟨v, h1, PcsV.of_owns h2, h3⟩

theorem small_of {L : List Pc} (h1 : L.length ≤ 1000) (h : (L.all fun p => decide (p.text.size ≤ 1000000) && decide (p.tag.size ≤ 1000000)) = true) : Small L := by
  refine ⟨h1, fun p hp => ?_⟩
  rw [List.all_eq_true] at h
  have := h p hp
  simpa using this

set_option maxRecDepth 100000 in
theorem bodyWakes_any (w : World) (hE : Env w) : Calls Tryd.prog 14 #[] w fun e w' => e = .returned (.bool true) ∧ Below w.heap.size w w' := by
  have HE := Lib.hid hE
  clear hE
  have t1 : s1.toList = [123, 36, 36, 61, 36, 49, 125] := by rw [Lib.toList_data]; rfl
  go_enter Tryd.func14, Tryd.ntmps14
  go_wp2_with fail
  refine (cut_any s1 _ HE.out.max (by decide)).mono ?_
  intro e w1 h1
  obtain ⟨v, rfl, hv, hb1⟩ := h1.pcs
  rw [k1]
  clear h1
  have HV := Lib.hid hv
  obtain ⟨a, n, c, rfl, hn, hnc, hc, hx⟩ := hv.open
  obtain rfl : n = 5 := hn.out.trans k2
  clear hv hn
  go_wp2_with fail
  refine (join_any _ _ _ HV.out (HE.out.below hb1) (small_of (by rw [k2]; omega) k7)).mono ?_
  rintro e w2 ⟨rfl, hb2⟩
  rw [k5, k6]
  have hb3 := hb1.trans (hb2.mono hb1.size)
  obtain ⟨b, o, rfl, c0, _⟩ := hx.out 1 (by omega)
  obtain ⟨b', o', hbb, _, _, c2, _⟩ := hx.out 3 (by omega)
  cases hbb
  rw [k3] at c0
  rw [k4] at c2
  have hbl := World.block_lt_of_cell? _ _ c0
  go_wp2_with fail
  refine (cut_any ⟨#[120]⟩ _ (HE.out.below hb3).max (by decide)).mono ?_
  rintro e w3 ⟨v2, rfl, _, hb4⟩
  rw [k8]
  have hb5 := hb3.trans (hb4.mono hb3.size)
  have e0 := ((hb2.trans (hb4.mono hb2.size)).cell (p := ⟨b, o + 1 * 4, none⟩) hbl).trans c0
  have e2 := ((hb2.trans (hb4.mono hb2.size)).cell (p := ⟨b, o + 3 * 4 + 2, none⟩) hbl).trans c2
  simp at e0 e2
  clear hb1 hb2 hb3 hb4 c0 c2 hx
  go_wp2_with fail
  refine (end_any ⟨#[97, 123, 98, 125]⟩ 1 _ (HE.out.below hb5).max (by decide)).mono ?_
  rintro e w4 ⟨rfl, hb6⟩
  rw [k9]
  have hb7 := hb5.trans (hb6.mono hb5.size)
  go_wp2_with fail
  refine (end_any ⟨#[123]⟩ 0 _ (HE.out.below hb7).max (by decide)).mono ?_
  rintro e w5 ⟨rfl, hb8⟩
  rw [k10]
  have hb9 := hb7.trans (hb8.mono hb7.size)
  go_wp2_with fail
  go_ret
  exact ⟨rfl, hb9⟩

/-- a text, cut -/
def cutT (s : ByteArray) (m : Nat) : ByteArray := if m < s.size then s.extract 0 m else s
theorem cutT_size (s : ByteArray) (m : Nat) : (cutT s m).size ≤ m := by
  unfold cutT; split
  · simp; omega
  · omega

theorem text_any (s : ByteArray) (m : Nat) (w : World) (hs : s.size ≤ maxLen) (hm : m ≤ 1000000) :
    Calls Tryd.prog 15 #[.string s, .int .i64 m] w fun e w' => e = .returned (.string (cutT s m)) ∧ w = w' := by
  unfold maxLen at hs
  by_cases h : m < s.size
  · have hc := Lib.hid (show cutT s m = s.extract 0 m from if_pos h)
    have hm' : m ≤ s.size := Nat.le_of_lt h
    have d1 : decide ((m : Int) < (s.size : Int)) = true := by simp; omega
    go_enter Tryd.func15, Tryd.ntmps15
    go_wp2
    go_ret
    exact ⟨ret_str hc.out.symm, rfl⟩
  · have hc := Lib.hid (show cutT s m = s from if_neg h)
    have d1 : decide ((m : Int) < (s.size : Int)) = false := by simp; omega
    go_enter Tryd.func15, Tryd.ntmps15
    go_wp2
    go_ret
    exact ⟨ret_str hc.out.symm, rfl⟩

def inBraces (s : ByteArray) : ByteArray := ⟨#[123]⟩ ++ s ++ ⟨#[125]⟩
theorem inBraces_size (s : ByteArray) : (inBraces s).size = s.size + 2 := by
  unfold inBraces
  rw [ByteArray.size_append, ByteArray.size_append]
  show 1 + s.size + 1 = _; omega

set_option maxRecDepth 100000 in
theorem bodyEnds_walk (s : ByteArray) (i : Int) (w : World) (hs : s.size ≤ maxLen) (hE : Env w) :
    Calls Tryd.prog 3 #[.string s, .int .i64 i] w fun e w' => e = .returned (.bool true) ∧ Below w.heap.size w w' := by
  have HE := Lib.hid hE
  have HS := Lib.hid hs
  clear hE hs
  go_enter Tryd.func3, Tryd.ntmps3
  go_wp2_with fail
  refine (bodyWakes_any _ HE.out).mono ?_
  rintro e w1 ⟨rfl, hb1⟩
  go_wp2_with fail
  refine (text_any s 120 _ HS.out (by omega)).mono ?_
  rintro e w2 ⟨rfl, rfl⟩
  have ht := cutT_size s 120
  generalize cutT s 120 = t at ht ⊢
  go_wp2_with fail
  go_loopw [5] (fun x wr => ∃ j : Int, -1 ≤ j ∧ j ≤ t.size + 1 ∧ x = .int .i64 j ∧ Below w.heap.size w wr) (fun x _ => (t.size + 1 - intOf x).toNat)
  case atStart => exact ⟨-1, by omega, by omega, rfl, hb1⟩
  case round =>
    obtain ⟨j, hj1, hj2, rfl, hb⟩ := hrel
    by_cases hlt : j ≤ t.size
    · go_wp2_with fail
      refine (end_any t j _ (HE.out.below hb).max (by omega)).mono ?_
      rintro e w3 ⟨rfl, hb3⟩
      have hb4 := hb.trans (hb3.mono hb.size)
      go_wp2_with fail
      refine (rend_any t j _ (by omega)).mono ?_
      rintro e w4 ⟨rfl, hb5⟩
      have hb6 := hb4.trans (hb5.mono hb4.size)
      generalize endS t j = r
      go_wp2_with fail
      go_roundw
      case rel => exact ⟨j + 1, by omega, by omega, rfl, hb6⟩
      case measure => simp [intOf]; omega
    · have hz := inBraces_size t
      go_wp2_with fail
      refine (end_any t i _ (HE.out.below hb).max (by omega)).mono ?_
      rintro e w3 ⟨rfl, hb3⟩
      have hb4 := hb.trans (hb3.mono hb.size)
      go_wp2_with fail
      refine (rend_any t i _ (by omega)).mono ?_
      rintro e w4 ⟨rfl, hb5⟩
      have hb6 := hb4.trans (hb5.mono hb4.size)
      generalize endS t i = r
      clear hb hb3 hb4 hb5
      go_wp2_with fail
      refine (end_any (inBraces t) 0 _ (HE.out.below hb6).max (by omega)).mono ?_
      rintro e w5 ⟨rfl, hb7⟩
      have hb8 := hb6.trans (hb7.mono hb6.size)
      go_wp2_with fail
      refine (rend_any (inBraces t) 0 _ (by omega)).mono ?_
      rintro e w6 ⟨rfl, hb9⟩
      have hb10 := hb8.trans (hb9.mono hb8.size)
      generalize endS (inBraces t) 0 = r'
      go_wp2_with fail
      go_ret
      exact ⟨rfl, hb10⟩
end

end Go.Proofs.YtmpdpgbcflogfaaDoor
