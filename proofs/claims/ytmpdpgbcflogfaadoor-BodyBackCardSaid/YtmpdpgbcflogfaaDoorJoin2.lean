/- Join: its walk. -/
import Derived.Test.YtmpdpgbcflogfaaDoorJoin
namespace Go.Proofs.YtmpdpgbcflogfaaDoor
open Go.RowKit
set_option linter.unusedVariables false

def joinL (L : List Pc) : List UInt8 := L.flatMap (fun p => (textP p).data.toList)
def joinS (L : List Pc) : ByteArray × Int := if L.all mayB = true then (⟨(joinL L).toArray⟩, 0) else (ByteArray.empty, 1)

theorem tagB_size (t : ByteArray) : (tagB t).size ≤ t.size + 2 := by
  unfold tagB; split
  · exact Nat.zero_le _
  · rw [ByteArray.size_append, ByteArray.size_append]
    show 1 + t.size + 1 ≤ _; omega
theorem textP_size (p : Pc) (h : mayB p = true) : (textP p).size ≤ p.text.size + p.tag.size + 6 := by
  have hp' := of_decide_eq_true (p := (1 ≤ p.kind ∧ p.kind ≤ 3 ∧ 0 ≤ p.num ∧ p.num ≤ 999 ∧ (p.tag.size = 0 ∨ isNameB p.tag = true))) h
  have h1 := tagB_size p.tag
  have h2 := numT_size p.num hp'.2.2.1 hp'.2.2.2.1
  have e1 : (⟨#[36]⟩ : ByteArray).size = 1 := rfl
  unfold textP
  split
  · omega
  · split
    · rw [ByteArray.size_append, ByteArray.size_append, e1]; omega
    · rw [ByteArray.size_append, ByteArray.size_append, e1]; omega

theorem isBuilder_below {T e : TypeId} {B b : Nat} {bs : List Value} {w w' : World} (h : Lib.IsBuilder T e B b bs w) (hb : Below w.heap.size w w') : Lib.IsBuilder T e B b bs w' := by
  rcases h with ⟨h1, v, h2, h3, h4⟩ | ⟨h1, v, h2, h3, h4⟩
  · exact .inl ⟨h1, v, block_below h2 hb (lt_of_block h2), own_below h3 hb, h4⟩
  · exact .inr ⟨h1, v, block_below h2 hb (lt_of_block h2), own_below h3 hb, h4⟩

theorem joinL_snoc {L : List Pc} {k : Nat} (hk : k < L.length) : joinL (L.take (k + 1)) = joinL (L.take k) ++ (textP (L.getD k noPc)).data.toList := by
  unfold joinL
  rw [List.take_succ_eq_append_getElem hk, List.flatMap_append, List.getD_eq_getElem?_getD, List.getElem?_eq_getElem hk]
  simp
theorem all_snoc {L : List Pc} {k : Nat} (hk : k < L.length) : (L.take (k + 1)).all mayB = ((L.take k).all mayB && mayB (L.getD k noPc)) := by
  rw [List.take_succ_eq_append_getElem hk, List.all_append, List.getD_eq_getElem?_getD, List.getElem?_eq_getElem hk]
  simp
theorem all_not {L : List Pc} {k : Nat} (hk : k < L.length) (h : mayB (L.getD k noPc) = false) : ¬ L.all mayB = true := by
  intro h2
  rw [List.all_eq_true] at h2
  have := h2 L[k] (List.getElem_mem hk)
  rw [List.getD_eq_getElem?_getD, List.getElem?_eq_getElem hk] at h
  simp at h
  rw [h] at this
  cases this

/-- pieces whose texts are not too long -/
def Small (L : List Pc) : Prop := L.length ≤ 1000 ∧ ∀ p ∈ L, p.text.size ≤ 1000000 ∧ p.tag.size ≤ 1000000
theorem Small.at {L : List Pc} (h : Small L) {k : Nat} (hk : k < L.length) : (L.getD k noPc).text.size ≤ 1000000 ∧ (L.getD k noPc).tag.size ≤ 1000000 := by
  rw [List.getD_eq_getElem?_getD, List.getElem?_eq_getElem hk]
  exact h.2 _ (List.getElem_mem hk)

set_option maxRecDepth 100000 in
set_option maxHeartbeats 1000000 in
theorem join_any (v : Value) (L : List Pc) (w : World) (h : PcsV w v L) (hE : Env w) (hs : Small L) :
    Calls Tryd.prog 18 #[v] w fun e w' => e = .returned (.tuple #[.string (joinS L).1, .int .i64 (joinS L).2]) ∧ Below w.heap.size w w' := by
  obtain ⟨a, n, c, rfl, hn, hnc, hc, hx⟩ := h.open
  have HS := Lib.hid hs
  have hn1 : n ≤ 1000 := by rw [hn.out]; exact hs.1
  have HE := Lib.hid hE
  have HR : Hid (joinS L = if L.all mayB = true then (⟨(joinL L).toArray⟩, 0) else (ByteArray.empty, 1)) := Lib.hid rfl
  generalize joinS L = R at HR ⊢
  clear h hs hE
  go_enter Tryd.func18, Tryd.ntmps18
  go_wp2_with fail
  go_loopw [9] (fun x wr => ∃ k : Nat, k ≤ n ∧ x = .int .i64 k ∧ Hid ((L.take k).all mayB = true) ∧ (joinL (L.take k)).length ≤ k * 2000010 ∧ Lib.IsBuilder 60 5 w.heap.size w.heap.size (Lib.byteCells (joinL (L.take k))) wr ∧ Below w.heap.size w wr) (fun x _ => n + 1 - (intOf x).toNat)
  case atStart => exact ⟨0, by omega, rfl, Lib.hid rfl, by simp [joinL], Lib.fresh_isBuilder _ _ w, (Below.refl _ _).alloc (Nat.le_refl _) _⟩
  case round =>
    obtain ⟨k, hk, rfl, hal, hlen, hbd, hb⟩ := hrel
    have HBd := Lib.hid hbd
    clear hbd
    have hs1 := hb.size
    by_cases hlt : k < n
    · obtain ⟨b, o, rfl, c0, c1, c2, c3⟩ := hx.out k hlt
      have hblt := World.block_lt_of_cell? _ _ c0
      replace c0 := (hb.cell (p := ⟨b, o + k * 4, none⟩) hblt).trans c0
      replace c1 := (hb.cell (p := ⟨b, o + k * 4 + 1, none⟩) hblt).trans c1
      replace c2 := (hb.cell (p := ⟨b, o + k * 4 + 2, none⟩) hblt).trans c2
      replace c3 := (hb.cell (p := ⟨b, o + k * 4 + 3, none⟩) hblt).trans c3
      have hkL : k < L.length := by have := hn.out; omega
      obtain ⟨hz1, hz2⟩ := HS.out.at hkL
      have HJ := Lib.hid (joinL_snoc hkL)
      have HA := Lib.hid (all_snoc hkL)
      have HN := Lib.hid (all_not hkL)
      have hmb := fun W => mayBe_any (L.getD k noPc) W hz2
      have htx := fun W (hW : Env W) (hp : mayB (L.getD k noPc) = true) => textP_any (L.getD k noPc) W hW hp hz2
      have hts := textP_size (L.getD k noPc)
      generalize L.getD k noPc = p at c0 c1 c2 c3 hz1 hz2 HJ HA HN hmb htx hts
      obtain ⟨kd, tx, nm, tg⟩ := p
      simp only [Pc.agg] at c0 c1 c2 c3 hz1 hz2 hmb htx hts
      have HMB := Lib.hid hmb
      have HTX := Lib.hid htx
      have HTS := Lib.hid hts
      clear hmb htx hts
      go_wp2_with fail
      have hbx : (wr.alloc (.cells #[.int .i64 kd, .string tx, .int .i64 nm, .string tg] 28)).heap[wr.heap.size]? = some (.cells #[.int .i64 kd, .string tx, .int .i64 nm, .string tg] 28 (0, 0)) := heap_alloc_new _ _
      have hbB := hb.alloc hs1 (.cells #[.int .i64 kd, .string tx, .int .i64 nm, .string tg] 28)
      have hBd2 := isBuilder_below HBd.out ((Below.refl wr.heap.size wr).alloc (Nat.le_refl _) (.cells #[.int .i64 kd, .string tx, .int .i64 nm, .string tg] 28))
      generalize wr.alloc (.cells #[.int .i64 kd, .string tx, .int .i64 nm, .string tg] 28) = wB at hbx hbB hBd2 ⊢
      generalize wr.heap.size = B at hbx ⊢
      have HBd2 := Lib.hid hBd2
      clear hBd2 HBd c0 c1 c2 c3 hb hs1
      refine (HMB.out _).mono ?_
      rintro e w3 ⟨rfl, hb3⟩
      cases hm : mayB ⟨kd, tx, nm, tg⟩ with
      | true =>
        have hbx3 := block_below hbx hb3 (lt_of_block hbx)
        have hb4 := hbB.trans (hb3.mono hbB.size)
        have HBd3 := Lib.hid (isBuilder_below HBd2.out hb3)
        have d0 : w3.cell? ⟨B, 0, none⟩ = some (.int .i64 kd) := by rw [cell_of_row w3 B 0 _ _ (0, 0) hbx3]; rfl
        have d1 : w3.cell? ⟨B, 1, none⟩ = some (.string tx) := by rw [cell_of_row w3 B 1 _ _ (0, 0) hbx3]; rfl
        have d2 : w3.cell? ⟨B, 2, none⟩ = some (.int .i64 nm) := by rw [cell_of_row w3 B 2 _ _ (0, 0) hbx3]; rfl
        have d3 : w3.cell? ⟨B, 3, none⟩ = some (.string tg) := by rw [cell_of_row w3 B 3 _ _ (0, 0) hbx3]; rfl
        have hE3 := HE.out.below hb4
        have htp := HTS.out hm
        have HA2 : Hid ((L.take (k + 1)).all mayB = true) := Lib.hid (by rw [HA.out, hal.out, hm]; rfl)
        have htx2 := Lib.hid (HTX.out _ hE3 hm)
        clear hbx hb3 hbB HBd2 hE3 hm HA HN
        generalize textP ⟨kd, tx, nm, tg⟩ = T at htp HJ htx2
        go_wp2_with fail
        refine htx2.out.mono ?_
        rintro e w5 ⟨rfl, hb5⟩
        have hb6 := hb4.trans (hb5.mono hb4.size)
        have HBd5 := isBuilder_below HBd3.out hb5
        clear hb5 hb4 HBd3
        go_wp2_with fail
        refine (writeString_any w.heap.size w.heap.size _ T w5 HBd5 (by rw [Lib.byteCells_length]; omega) hb6.size).mono ?_
        rintro e w7 ⟨rfl, hBd7, hb7⟩
        go_wp2_with fail
        go_roundw
        case rel => exact ⟨k + 1, by omega, by go_num, HA2, by rw [HJ.out, List.length_append]; have : T.data.toList.length = T.size := rfl; omega, .inr (by rw [HJ.out, Lib.byteCells_append]; exact hBd7), hb6.trans hb7⟩
        case measure => simp [intOf]; omega
      | false =>
        have hb4 := hbB.trans (hb3.mono hbB.size)
        have HR2 : Hid (R = (ByteArray.empty, 1)) := Lib.hid (by rw [HR.out, if_neg (HN.out hm)])
        clear hm
        go_wp2_with fail
        go_ret2
        exact ⟨by rw [HR2.out]; rfl, hb4⟩
    · obtain rfl : k = n := by omega
      have e1 : L.take k = L := List.take_of_length_le (by have := hn.out; omega)
      rw [e1] at hal HBd
      have HR2 : Hid (R = (⟨(joinL L).toArray⟩, 0)) := Lib.hid (by rw [HR.out, if_pos hal.out])
      clear e1 hal hlen
      go_wp2_with fail
      refine (Tryd.Builder_String_any w.heap.size w.heap.size (joinL L) wr HBd.out hs1).mono ?_
      rintro e w7 ⟨rfl, hb7⟩
      go_wp2_with fail
      go_ret2
      exact ⟨by rw [HR2.out]; rfl, hb.trans hb7⟩

end Go.Proofs.YtmpdpgbcflogfaaDoor
