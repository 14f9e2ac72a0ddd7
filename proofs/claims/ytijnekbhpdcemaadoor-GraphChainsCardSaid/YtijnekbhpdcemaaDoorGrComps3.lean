/- graph.Comps. -/
import Derived.Test.YtijnekbhpdcemaaDoorGrComps2
import Derived.Test.YtijnekbhpdcemaaDoorGrReach
namespace Go.Proofs.YtijnekbhpdcemaaDoor
open Go.RowKit
set_option linter.unusedVariables false
set_option linter.unusedSimpArgs false

theorem scc_len {L : List (List Int)} {cmp : Int → Int} {cps : List (List Int)} (h : Scc L cmp cps) {c : Nat} (hc : c < cps.length) : 0 < (cps.getD c []).length ∧ (cps.getD c []).length ≤ L.length := by
  obtain ⟨h1, h2, h3⟩ := h.of c hc
  have hr := sortI_rising h2
  have := rising_len (sortI (cps.getD c [])) 0 L.length hr (fun x hx => (h3 x ((sortI_perm _).mem_iff.1 hx)).1)
  have hp := (sortI_perm (cps.getD c [])).length_eq
  exact ⟨List.length_pos_iff.2 h1, by omega⟩
theorem sortK_at (C : List (List Int)) (k : Nat) (hk : k < C.length) : (sortK C k).getD k [] = C.getD k [] := by
  have hl : ((C.take k).map sortI).length = k := by simp; omega
  unfold sortK
  rw [List.getD_eq_getElem?_getD, List.getElem?_append_right (by omega), hl, Nat.sub_self, List.getElem?_drop, Nat.add_zero, ← List.getD_eq_getElem?_getD]
theorem map_sort_at (C : List (List Int)) (k : Nat) (hk : k < C.length) : (C.map sortI).getD k [] = sortI (C.getD k []) := by
  rw [List.getD_eq_getElem?_getD, List.getElem?_map, List.getElem?_eq_getElem hk, List.getD_eq_getElem?_getD, List.getElem?_eq_getElem hk]; rfl

def CompsPost (L : List (List Int)) (w : World) (e : Ending) (w' : World) : Prop :=
  (∃ v C, e = .returned v ∧ RowsV w' v C ∧ (L.length ≤ 4000 → IsComps L C) ∧ (4000 < L.length → C = [])) ∧ Below w.heap.size w w'

theorem RowsV.nil (w : World) : RowsV w (.slice none 0 0) [] := ⟨[], ⟨none, 0, rfl, Nat.le_refl _, by omega, fun _ => rfl, fun i hi => absurd hi (Nat.not_lt_zero _)⟩, rfl, fun i hi => absurd hi (Nat.not_lt_zero _)⟩

set_option maxHeartbeats 8000000 in
set_option maxRecDepth 100000 in
theorem comps_any (hS : SortsI) (hC : SortsC) (hN : SortsCNone) (L : List (List Int)) (rv : Value) (w : World) (h : RowsV w rv L) (hn : L.length ≤ 1000000) :
    Calls Tryd.prog 36 #[rv] w (CompsPost L w) := by
  obtain ⟨ra, rn, rc, rfl, hrn, hrc, hrm, hrx⟩ := h.open
  obtain rfl : rn = L.length := hrn.out
  by_cases hbig : 4000 < L.length
  · have hbI : (4000 : Int) < (L.length : Int) := by omega
    clear hrx h hrn hrc hrm
    go_enter Tryd.func36, Tryd.ntmps36
    go_wp2_with (fail)
    go_ret
    exact ⟨⟨_, [], rfl, RowsV.nil _, fun h => absurd h (by omega), fun _ => rfl⟩, Below.refl _ _⟩
  · have hbI : ¬ (4000 : Int) < (L.length : Int) := by omega
    have HX := Lib.hid (walk_any L _ w h hn)
    clear hrx h hrn hrc hrm
    go_enter Tryd.func36, Tryd.ntmps36
    go_wp2_with (fail)
    refine HX.out.mono ?_
    rintro e w1 ⟨tg, b, ob, lb, cb, ov, cv, vs, s, rfl, hw, hscc, hb1, hcl⟩
    have hc5 : w1.cell? ⟨b, 5, none⟩ = some cv := hw.rb.cell (i := 5) (by omega)
    obtain ⟨ca, cc, rfl⟩ := owns_slice hw.rcv
    have hcl2 : s.cps.length ≤ 1000000 := by omega
    have HW := Lib.hid hw
    have HSC := Lib.hid hscc
    clear hw hscc HX
    go_wp2_with (fail)
    go_loopw [16] (fun x wr => ∃ k : Nat, k ≤ s.cps.length ∧ x = .int .i64 k ∧ WalkV wr w.heap.size tg b (.slice ra L.length rc) L.length ob lb cb ov (.slice ca s.cps.length cc) vs { s with cps := sortK s.cps k } ∧ Below w.heap.size w wr) (fun x _ => s.cps.length - (intOf x).toNat)
    case atStart => exact ⟨0, Nat.zero_le _, rfl, by have : sortK s.cps 0 = s.cps := by { simp [sortK] }
                                                     rw [this]; exact HW.out, hb1⟩
    case round =>
      clear HW hb1 hc5
      obtain ⟨k, hk, rfl, hw, hbr⟩ := hrel
      by_cases hlt : k < s.cps.length
      · have hkI : (k : Int) < (s.cps.length : Int) := by omega
        have hrow := hw.rcv
        have hl : ({ s with cps := sortK s.cps k } : TS).cps.length = s.cps.length := sortK_len _ _
        rw [hl] at hrow
        obtain ⟨g, cap, hge, hg1, hg2, hg3, hg4⟩ := owns_at hrow (by omega)
        cases hge
        have hvl : vs.length = s.cps.length := by have := hrow.1; omega
        have hcv : wr.cell? ⟨g, k, none⟩ = some (vs.getD k undef) := by
          rw [hrow.cellAt k (by omega), List.getD_eq_getElem?_getD, List.getElem?_eq_getElem (by omega)]; rfl
        have hmk := hw.mem k (by rw [hl]; exact hlt)
        have hat : ({ s with cps := sortK s.cps k } : TS).cps.getD k [] = s.cps.getD k [] := sortK_at _ _ hlt
        obtain ⟨p1, p2⟩ := scc_len HSC.out hlt
        rw [hat] at hmk
        have HX := Lib.hid (sort_own hS hmk p1 (by omega))
        have HW := Lib.hid hw
        have hmb := hmk.lt
        have HB := Lib.hid hmb
        clear hw hrow hmk hmb
        generalize hv : vs.getD k undef = v at hcv HX HB
        go_wp2_with (first
          | (go_at_call 51; refine HX.out.mono ?_; rintro e w9 ⟨rfl, ho9, hg9⟩))
        have hw9 := HW.out.sorted (c := k) (l := sortI (s.cps.getD k [])) (by rw [hl]; exact hlt) (by rw [hv]; exact hg9) (by rw [hv]; exact ho9)
        have hset : ({ s with cps := sortK s.cps k } : TS).cps.set k (sortI (s.cps.getD k [])) = sortK s.cps (k + 1) := by
          rw [← sortK_next s.cps k hlt, sortK_at _ _ hlt]
        have hw9' : WalkV w9 w.heap.size tg b (.slice ra L.length rc) L.length ob lb cb ov (.slice (some ⟨g, 0, none⟩) s.cps.length cc) vs { s with cps := sortK s.cps (k + 1) } := by
          rw [← hset]; exact hw9
        have hb9 := hbr.grown hg9 HW.out.bas (fun kk hkk => (HB.out kk hkk).1)
        go_roundw
        case rel => exact ⟨k + 1, by omega, by go_num, hw9', hb9⟩
        case measure => simp [intOf]; omega
      · obtain rfl : k = s.cps.length := by omega
        have hl : ({ s with cps := sortK s.cps s.cps.length } : TS).cps = s.cps.map sortI := sortK_all _
        have HX := Lib.hid (sortC_own hC hN hw (fun c hc => by
          rw [hl] at hc ⊢
          have hc' : c < s.cps.length := by simpa using hc
          rw [map_sort_at _ _ hc']
          intro e0
          have h1 := (sortI_perm (s.cps.getD c [])).length_eq
          have h2 := (scc_len HSC.out hc').1
          rw [e0] at h1; rw [← h1] at h2; exact absurd h2 (Nat.lt_irrefl _)) (by rw [hl]; simpa using hcl2))
        have hsz := hbr.size
        clear hw hlt hk
        go_wp2_with (first
          | (go_at_call 52; refine HX.out.mono ?_; rintro e w9 ⟨rfl, ⟨C, hp9, hs9, hr9⟩, hb9⟩))
        go_ret
        rw [hl] at hp9
        exact ⟨⟨_, C, rfl, hr9, fun _ => scc_comps HSC.out hp9 hs9, fun h => absurd h hbig⟩, hbr.trans hb9⟩

end Go.Proofs.YtijnekbhpdcemaaDoor
