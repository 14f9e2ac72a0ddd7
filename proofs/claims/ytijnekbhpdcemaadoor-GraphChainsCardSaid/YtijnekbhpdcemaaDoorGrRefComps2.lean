/- The document's Comps. -/
import Derived.Test.YtijnekbhpdcemaaDoorGrComps3
import Derived.Test.YtijnekbhpdcemaaDoorGrReachW
import Derived.Test.YtijnekbhpdcemaaDoorGrGrow
namespace Go.Proofs.YtijnekbhpdcemaaDoor
section
open Go.RowKit
set_option linter.unusedVariables false
set_option linter.unusedSimpArgs false

def isIn (R : List (List Int)) (i j : Int) : Bool := decide (j ∈ R.getD i.toNat []) && decide (i ∈ R.getD j.toNat [])
def cls (R : List (List Int)) (n : Nat) (i : Int) : List Int := ((List.range n).map (fun j : Nat => (j : Int))).filter (isIn R i)
def outK (R : List (List Int)) (n k : Nat) : List (List Int) := ((List.range k).filter (fun i : Nat => decide ((cls R n i).getD 0 0 = (i : Int)))).map (fun i : Nat => cls R n i)
theorem cls_next (R : List (List Int)) (n : Nat) (i : Int) : cls R (n + 1) i = if isIn R i n = true then cls R n i ++ [(n : Int)] else cls R n i := by
  unfold cls
  rw [List.range_succ, List.map_append, List.filter_append]
  cases h : isIn R i n <;> simp [h]
theorem outK_next (R : List (List Int)) (n k : Nat) : outK R n (k + 1) = if (cls R n k).getD 0 0 = (k : Int) then outK R n k ++ [cls R n k] else outK R n k := by
  unfold outK
  rw [List.range_succ, List.filter_append, List.map_append]
  by_cases h : (cls R n k).getD 0 0 = (k : Int)
  · rw [if_pos h, List.filter_cons, if_pos (by simpa using h)]; rfl
  · rw [if_neg h, List.filter_cons, if_neg (by simpa using h)]; simp
theorem cls_rising (R : List (List Int)) (n : Nat) (i : Int) : Rising (cls R n i) := by
  unfold cls Rising
  refine List.Pairwise.filter _ ?_
  rw [List.pairwise_map]
  refine (List.pairwise_lt_range (n := n)).imp ?_
  intro a b h; omega
theorem cls_len (R : List (List Int)) (n : Nat) (i : Int) : (cls R n i).length ≤ n := by
  unfold cls
  refine Nat.le_trans (List.length_filter_le _ _) ?_
  simp
structure IsReach (L R : List (List Int)) : Prop where
  len : R.length = L.length
  mem : ∀ i : Nat, i < L.length → ∀ j, j ∈ R.getD i [] ↔ Reaches L i j
theorem cls_mem {L R : List (List Int)} (h : IsReach L R) {i : Nat} (hi : i < L.length) (j : Int) : j ∈ cls R L.length i ↔ Mutual L i j := by
  unfold cls Mutual isIn
  rw [List.mem_filter, List.mem_map]
  constructor
  · rintro ⟨⟨k, hk, rfl⟩, h2⟩
    rw [List.mem_range] at hk
    simp only [Bool.and_eq_true, decide_eq_true_eq, Int.toNat_natCast] at h2
    exact ⟨⟨by omega, by omega⟩, (h.mem i hi _).1 h2.1, (h.mem k hk _).1 h2.2⟩
  · rintro ⟨⟨h0, h1⟩, h2, h3⟩
    refine ⟨⟨j.toNat, by rw [List.mem_range]; omega, by omega⟩, ?_⟩
    simp only [Bool.and_eq_true, decide_eq_true_eq, Int.toNat_natCast]
    refine ⟨(h.mem i hi _).2 h2, (h.mem j.toNat (by omega) _).2 ?_⟩
    rwa [Int.toNat_of_nonneg h0]
theorem self_cls {L R : List (List Int)} (h : IsReach L R) {i : Nat} (hi : i < L.length) : (i : Int) ∈ cls R L.length i := (cls_mem h hi _).2 ⟨⟨by omega, by omega⟩, .here, .here⟩
theorem outK_mem {R : List (List Int)} {n k : Nat} {l : List Int} (h : l ∈ outK R n k) : ∃ i, i < k ∧ (cls R n i).getD 0 0 = (i : Int) ∧ l = cls R n i := by
  unfold outK at h
  obtain ⟨i, h1, rfl⟩ := List.mem_map.1 h
  rw [List.mem_filter, List.mem_range] at h1
  exact ⟨i, h1.1, by simpa using h1.2, rfl⟩
theorem outK_comps {L R : List (List Int)} (h : IsReach L R) : IsComps L (outK R L.length L.length) := by
  have hget : ∀ c, c < (outK R L.length L.length).length → ∃ i, i < L.length ∧ (cls R L.length i).getD 0 0 = (i : Int) ∧ (outK R L.length L.length).getD c [] = cls R L.length i := fun c hc => by
    rw [List.getD_eq_getElem?_getD, List.getElem?_eq_getElem hc]
    exact outK_mem (List.getElem_mem hc)
  refine ⟨fun c hc => ?_, fun c d hcd hd => ?_, fun v hv => ?_⟩
  · obtain ⟨i, hi, h1, e⟩ := hget c hc
    rw [e]
    refine ⟨cls_rising _ _ _, fun e0 => ?_, fun v hv => ?_⟩
    · have := self_cls h hi; rw [e0] at this; simp at this
    · obtain ⟨n1, r1, r2⟩ := (cls_mem h hi v).1 hv
      refine ⟨n1, fun u => ?_⟩
      rw [cls_mem h hi]
      exact ⟨fun ⟨a, b, c⟩ => ⟨a, r2.trans b, c.trans r1⟩, fun ⟨a, b, c⟩ => ⟨a, r1.trans b, c.trans r2⟩⟩
  · have hp : (outK R L.length L.length).Pairwise (fun a b => a.getD 0 0 < b.getD 0 0) := by
      unfold outK
      rw [List.pairwise_map]
      refine (List.Pairwise.filter _ (List.pairwise_lt_range (n := L.length))).imp_of_mem ?_
      intro a b ha hb hab
      have h1 := (List.mem_filter.1 ha).2
      have h2 := (List.mem_filter.1 hb).2
      simp only [decide_eq_true_eq] at h1 h2
      rw [h1, h2]; omega
    have := List.pairwise_iff_getElem.1 hp c d (by omega) hd hcd
    rw [List.getD_eq_getElem?_getD (l := outK _ _ _), List.getElem?_eq_getElem (by omega), List.getD_eq_getElem?_getD (l := outK _ _ _), List.getElem?_eq_getElem hd]
    exact this
  · have hvn : (v.toNat : Int) = v := Int.toNat_of_nonneg hv.1
    have hvl : v.toNat < L.length := by have := hv.2; omega
    have hself := self_cls h hvl
    rw [hvn] at hself
    have hne : cls R L.length v ≠ [] := fun e => by rw [e] at hself; simp at hself
    have hf := first_mem hne
    have hm1 := (cls_mem h hvl ((cls R L.length v).getD 0 0)).1 (by rw [hvn]; exact hf)
    rw [hvn] at hm1
    generalize hfv : (cls R L.length v).getD 0 0 = f at hm1
    have hfn : (f.toNat : Int) = f := Int.toNat_of_nonneg hm1.1.1
    have hfl : f.toNat < L.length := by have := hm1.1.2; omega
    have hsame : cls R L.length f = cls R L.length v := rising_ext (cls_rising _ _ _) (cls_rising _ _ _) (fun y => by
      have e1 := cls_mem h hfl y
      have e2 := cls_mem h hvl y
      rw [hfn] at e1; rw [hvn] at e2
      rw [e1, e2]
      exact ⟨fun ⟨a, b, c⟩ => ⟨a, hm1.2.1.trans b, c.trans hm1.2.2⟩, fun ⟨a, b, c⟩ => ⟨a, hm1.2.2.trans b, c.trans hm1.2.1⟩⟩)
    have hmem : cls R L.length v ∈ outK R L.length L.length := by
      unfold outK
      refine List.mem_map.2 ⟨f.toNat, List.mem_filter.2 ⟨by rw [List.mem_range]; exact hfl, ?_⟩, by rw [hfn, hsame]⟩
      rw [hfn, hsame, hfv]; simp
    obtain ⟨c, hc, e⟩ := List.getElem_of_mem hmem
    refine ⟨c, hc, ?_⟩
    rw [List.getD_eq_getElem?_getD, List.getElem?_eq_getElem hc]
    show v ∈ (outK R L.length L.length)[c]
    rw [e]; exact hself
end

section
open Go.RowKit
set_option linter.unusedVariables false
set_option linter.unusedSimpArgs false

theorem reach_rows {L R : List (List Int)} {k : Nat} {l : List Int} (hl : R.length = k) (h : ∀ i : Nat, i < k → ∀ j, j ∈ R.getD i [] ↔ Reaches L i j) (hk : ∀ j, j ∈ l ↔ Reaches L k j) : ∀ i : Nat, i < k + 1 → ∀ j, j ∈ (R ++ [l]).getD i [] ↔ Reaches L i j := fun i hi j => by
  rw [getD_snoc R l [] i (by omega), hl]
  by_cases e : i < k
  · rw [if_pos e]; exact h i e j
  · rw [if_neg e]
    obtain rfl : i = k := by omega
    exact hk j

set_option maxHeartbeats 8000000 in
set_option maxRecDepth 100000 in
theorem refComps_any (L : List (List Int)) (rv : Value) (w : World) (h : RowsV w rv L) (hn : L.length ≤ 1000000) :
    Calls Tryd.prog 37 #[rv] w (CompsPost L w) := by
  obtain ⟨ra, rn, rc, rfl, hrn, hrc, hrm, hrx⟩ := h.open
  obtain rfl : rn = L.length := hrn.out
  by_cases hbig : 4000 < L.length
  · have hbI : (4000 : Int) < (L.length : Int) := by omega
    clear hrx h hrn hrc hrm
    go_enter Tryd.func37, Tryd.ntmps37
    go_wp2_with (fail)
    go_ret
    exact ⟨⟨_, [], rfl, RowsV.nil _, fun h => absurd h (by omega), fun _ => rfl⟩, Below.refl _ _⟩
  · have hbI : ¬ (4000 : Int) < (L.length : Int) := by omega
    have HRV := Lib.hid h
    obtain ⟨i0, hi0, hz0, hz1, hz2⟩ := info_parts Tryd.infoRow
    obtain ⟨i1, hi1, hy0, hy1, hy2⟩ := info_parts Tryd.infoInt'
    clear hrx h hrn hrc hrm
    go_enter Tryd.func37, Tryd.ntmps37
    go_wp2_with (fail)
    go_loopw [3, 4] (fun x y W => ∃ (k : Nat) (R : List (List Int)) (vs : List Value), k ≤ L.length ∧ y = .int .i64 k ∧ GrowV W w.heap.size x vs R ∧ Hid (R.length = k) ∧ Hid (∀ i : Nat, i < k → ∀ j, j ∈ R.getD i [] ↔ Reaches L i j) ∧ Below w.heap.size w W) (fun _ y _ => L.length - (intOf y).toNat)
    case atStart => exact ⟨0, [], [], Nat.zero_le _, rfl, GrowV.nil _ _, Lib.hid rfl, Lib.hid (fun i hi => absurd hi (Nat.not_lt_zero _)), Below.refl _ _⟩
    case round =>
      obtain ⟨k, R, vs, hk, rfl, hG, hRl, hR, hb⟩ := hrel
      rename_i u3
      by_cases hlt : k < L.length
      · have hkI : (k : Int) < (L.length : Int) := by omega
        have HX := Lib.hid (reach_any L _ k wr (HRV.out.below hb) hlt hn)
        obtain ⟨ca, cc, hce⟩ := owns_slice hG.own
        rw [hRl.out] at hce
        subst hce
        have HG := Lib.hid hG
        have hkl : k ≤ 4000 := by omega
        have hsz := hb.size
        clear hG
        go_wp2_with (fail)
        refine HX.out.mono ?_
        rintro e w9 ⟨⟨v9, l9, rfl, hv9, hf9, hr9, hm9, hl9⟩, hb9⟩
        obtain ⟨va, vn, vc, rfl, _⟩ := hv9.open
        have hG9 := HG.out.below hb9
        have ho9 := hG9.own
        rw [hRl.out] at ho9
        have hs9 := hb9.size
        have HF := Lib.hid (And.intro hv9 (And.intro hf9 (And.intro hm9 (And.intro hG9 (And.intro hb9 (And.intro hlt hk))))))
        have hbase9 : w.heap.size ≤ w9.heap.size := by omega
        clear hv9 hf9 hr9 hm9 hl9 hG9 hb9 hsz hs9
        go_wp2_with (first
          | (at_builtin; refine wpList_append_own_at _ rfl _ _ 45 rfl w.heap.size 22 i0 (.slice none 0 0) 1 24 Tryd.underlying45 hi0 hz0 hz1 hz2 rfl (by decide) _ _ _ rfl (ho9.alloc _) ⟨w9.heap.size, 0, none⟩ 1 1 [.slice va vn vc] rfl rfl (news1 _ _ _) ?c2 ?c3 ?c4 ?c5 ?_))
        case c2 => intro x hx; simp at hx; rw [hx]; rfl
        case c3 => unfold maxLen; omega
        case c4 => omega
        case c5 => simp; omega
        intro v' w10 hown' hgrow _ hloc
        obtain ⟨hv9, hf9, hm9, hG9, hb9, hlt, hk⟩ := HF.out
        have hba := (Below.refl w9.heap.size w9).alloc (Nat.le_refl _) (.cells #[.slice va vn vc] 22)
        have hG11 := (hG9.below hba).push (l := l9) (by rw [hRl.out]; exact hown') hgrow (by simpa using hloc) (hv9.below hba) (fun kk hkk => by
          have h1 := hf9 kk hkk
          refine ⟨?_, fun e => ?_⟩
          · obtain ⟨k2, h2, h3⟩ := ints_block hv9 (List.length_pos_iff.2 (fun e => by have := (hm9 (k : Int)).2 .here; rw [e] at this; simp at this))
            rw [hkk] at h2; cases h2
            simp; omega
          · have := (HG.out.own.lt kk e).2
            omega)
        have hbb : Below w.heap.size w w10 := ((hb.trans (hb9.mono hb.size)).alloc hbase9 _).grown hgrow (by simp; omega) (fun kk hkk => (HG.out.own.lt kk hkk).1)
        have HQ := Lib.hid (And.intro hG11 (And.intro (reach_rows hRl.out hR.out hm9) hbb))
        have HLK : Hid ((R ++ [l9]).length = k + 1) := Lib.hid (by have := hRl.out; simp; exact this)
        have hlt' := Lib.hid hlt
        clear hv9 hf9 hm9 hG9 hb9 hk hba hG11 hbb hown' hgrow hloc ho9 HG HX HF
        go_wp2_with (fail)
        go_roundw
        case rel => exact ⟨k + 1, R ++ [l9], _, hlt'.out, by go_num, HQ.out.1, HLK, Lib.hid HQ.out.2.1, HQ.out.2.2⟩
        case measure => have := hlt'.out; simp [intOf]; omega
      · obtain rfl : k = L.length := by omega
        have HR : Hid (IsReach L R) := Lib.hid ⟨hRl.out, hR.out⟩
        obtain ⟨ca, cc, hce⟩ := owns_slice hG.own
        rw [hRl.out] at hce
        subst hce
        have HG := Lib.hid hG
        have hRl' := hRl
        have hb2s := hb.size
        clear hG hR hlt hk
        rename World => w2
        go_wp2_with (fail)
        go_loopw [5, 6] (fun x y W => ∃ (k : Nat) (vs2 : List Value), k ≤ L.length ∧ y = .int .i64 k ∧ GrowV W w2.heap.size x vs2 (outK R L.length k) ∧ Below w2.heap.size w2 W) (fun _ y _ => L.length - (intOf y).toNat)
        case atStart => exact ⟨0, [], Nat.zero_le _, rfl, GrowV.nil _ _, Below.refl _ _⟩
        case round =>
          obtain ⟨k, vs2, hk, rfl, hG2, hb2⟩ := hrel
          rename World => w3
          rename_i u5
          by_cases hlt : k < L.length
          · have hkI : (k : Int) < (L.length : Int) := by omega
            have HG2 := Lib.hid hG2
            clear hG2
            go_wp2_with (fail)
            go_loopw [7, 8] (fun x y W => ∃ j : Nat, j ≤ L.length ∧ y = .int .i64 j ∧ W.ownsRow w3.heap.size 3 1 x (cls R j k).length ((cls R j k).map (.int .i64)) ∧ Below w3.heap.size w3 W) (fun _ y _ => L.length - (intOf y).toNat)
            case atStart => exact ⟨0, Nat.zero_le _, rfl, World.ownsRow_nil _ _ _ _, Below.refl _ _⟩
            case round =>
              obtain ⟨j, hj, rfl, hl3, hb3⟩ := hrel
              have hbw : Below w2.heap.size w2 wr := hb2.trans (hb3.mono hb2.size)
              by_cases hjl : j < L.length
              · have hjI : (j : Int) < (L.length : Int) := by omega
                obtain ⟨gk, capk, hek, hck⟩ := HG.out.cell (i := k) (by rw [hRl'.out]; exact hlt)
                obtain ⟨gj, capj, hej, hcj⟩ := HG.out.cell (i := j) (by rw [hRl'.out]; exact hjl)
                rw [hRl'.out] at hek hej
                cases hek
                cases hej
                have hck2 := (hbw.cell (World.block_lt_of_cell? _ _ hck)).trans hck
                have hcj2 := (hbw.cell (World.block_lt_of_cell? _ _ hcj)).trans hcj
                have hik := (HG.out.rows k (by rw [hRl'.out]; exact hlt)).below hbw
                have hij := (HG.out.rows j (by rw [hRl'.out]; exact hjl)).below hbw
                have HK := Lib.hid (zhas_any _ _ (j : Int) wr hik)
                have HJ := Lib.hid (zhas_any _ _ (k : Int) wr hij)
                obtain ⟨vka, vkn, vkc, hvk, _⟩ := hik.open
                obtain ⟨vja, vjn, vjc, hvj, _⟩ := hij.open
                rw [hvk] at HK hck2
                rw [hvj] at HJ hcj2
                have hnx := cls_next R j k
                have hiv : isIn R k j = (decide ((j : Int) ∈ R.getD k []) && decide ((k : Int) ∈ R.getD j [])) := by unfold isIn; rw [Int.toNat_natCast, Int.toNat_natCast]
                have hcl := cls_len R j k
                have hl3' := Lib.hid hl3
                have hb3' := Lib.hid hb3
                have hjl' := Lib.hid hjl
                clear hck hcj hik hij hvk hvj hl3 hb2 hbw
                by_cases h1 : (j : Int) ∈ R.getD k []
                · have h1b : decide ((j : Int) ∈ R.getD k []) = true := decide_eq_true h1
                  rw [h1b] at HK hiv
                  by_cases h2 : (k : Int) ∈ R.getD j []
                  · have h2b : decide ((k : Int) ∈ R.getD j []) = true := decide_eq_true h2
                    rw [h2b] at HJ hiv
                    rw [if_pos (by rw [hiv]; rfl)] at hnx
                    have HNX := Lib.hid hnx
                    generalize cls R j k = l0 at *
                    clear h1 h2 h1b h2b hiv hnx hjl
                    go_wp2_with (first
                      | (go_at_call 21; (with_reducible refine HK.out.mono ?_); rintro e w7 ⟨rfl, rfl⟩)
                      | (go_at_call 21; (with_reducible refine HJ.out.mono ?_); rintro e w7 ⟨rfl, rfl⟩)
                      | (at_builtin; refine wpList_append_own_at _ rfl _ _ 22 rfl w3.heap.size 3 i1 (.int .i64 0) 1 8 Tryd.underlying22 hi1 hy0 hy1 hy2 rfl (by decide) _ _ _ rfl (hl3'.out.alloc _) ⟨wr.heap.size, 0, none⟩ 1 1 [.int .i64 j] rfl rfl (news1 _ _ _) ?c2 ?c3 ?c4 ?c5 ?_))
                    case c2 => intro x hx; simp at hx; rw [hx]; rfl
                    case c3 => unfold maxLen; omega
                    case c4 => omega
                    case c5 => have := hb3'.out.size; simp; omega
                    intro v' w10 hown' hgrow _ hloc
                    have hown2 : w10.ownsRow w3.heap.size 3 1 v' (cls R (j + 1) k).length ((cls R (j + 1) k).map (.int .i64)) := by
                      rw [HNX.out]; simpa using hown'
                    have hb10 := (hb3'.out.alloc hb3'.out.size (.cells #[.int .i64 (j : Int)] 3)).grown hgrow (by have := hb3'.out.size; simp; omega) (fun kk hkk => (hl3'.out.lt kk hkk).1)
                    have HQ := Lib.hid (And.intro hown2 hb10)
                    clear hown' hgrow hloc hown2 hb10 hl3' hb3'
                    go_wp2_with (fail)
                    go_roundw
                    case rel => exact ⟨j + 1, hjl'.out, by go_num, HQ.out.1, HQ.out.2⟩
                    case measure => have := hjl'.out; simp [intOf]; omega
                  · have h2b : decide ((k : Int) ∈ R.getD j []) = false := decide_eq_false h2
                    rw [h2b] at HJ hiv
                    rw [if_neg (by rw [hiv]; simp)] at hnx
                    have HNX := Lib.hid hnx
                    clear h1 h2 h1b h2b hiv hnx hjl
                    go_wp2_with (first
                      | (go_at_call 21; (with_reducible refine HK.out.mono ?_); rintro e w7 ⟨rfl, rfl⟩)
                      | (go_at_call 21; (with_reducible refine HJ.out.mono ?_); rintro e w7 ⟨rfl, rfl⟩))
                    go_roundw
                    case rel => exact ⟨j + 1, hjl'.out, by go_num, by rw [HNX.out]; exact hl3'.out, hb3'.out⟩
                    case measure => have := hjl'.out; simp [intOf]; omega
                · have h1b : decide ((j : Int) ∈ R.getD k []) = false := decide_eq_false h1
                  rw [h1b] at HK hiv
                  rw [if_neg (by rw [hiv]; simp)] at hnx
                  have HNX := Lib.hid hnx
                  clear h1 h1b hiv hnx hjl
                  go_wp2_with (first
                    | (go_at_call 21; (with_reducible refine HK.out.mono ?_); rintro e w7 ⟨rfl, rfl⟩))
                  go_roundw
                  case rel => exact ⟨j + 1, hjl'.out, by go_num, by rw [HNX.out]; exact hl3'.out, hb3'.out⟩
                  case measure => have := hjl'.out; simp [intOf]; omega
              · obtain rfl : j = L.length := by omega
                have hself := self_cls HR.out hlt
                have hne : cls R L.length k ≠ [] := fun e => by rw [e] at hself; simp at hself
                have hlp : 0 < (cls R L.length k).length := List.length_pos_iff.2 hne
                obtain ⟨gl, capl, rfl, hgl1, hgl2, _, _⟩ := owns_at hl3 hlp
                have hc0 : wr.cell? ⟨gl, 0, none⟩ = some (.int .i64 ((cls R L.length k).getD 0 0)) := by
                  rw [hl3.cellAt 0 (by omega), List.getElem?_map, List.getD_eq_getElem?_getD, List.getElem?_eq_getElem hlp]; rfl
                have hin : IntsV wr (.slice (some ⟨gl, 0, none⟩) (cls R L.length k).length capl) (cls R L.length k) := IntsV.of_owns hl3
                have hlpI : (0 : Int) < ((cls R L.length k).length : Int) := by omega
                have hon := outK_next R L.length k
                have hG3 := HG2.out.below hb3
                have hlt' := Lib.hid hlt
                have hbe : Below w2.heap.size w2 wr := hb2.trans (hb3.mono hb2.size)
                have hol : (outK R L.length k).length ≤ k := by unfold outK; rw [List.length_map]; refine Nat.le_trans (List.length_filter_le _ _) ?_; simp
                clear hl3 hself hne hjl hj hb2
                by_cases hf : (cls R L.length k).getD 0 0 = (k : Int)
                · rw [hf] at hc0
                  rw [if_pos hf] at hon
                  obtain ⟨oa, oc, rfl⟩ := owns_slice hG3.own
                  have HQ := Lib.hid (And.intro hin (And.intro hgl1 (And.intro hgl2 (And.intro hG3 (And.intro hon (And.intro hbe hb3))))))
                  have ho3 := hG3.own
                  have hsz3 : w2.heap.size ≤ wr.heap.size := hbe.size
                  clear hin hgl1 hgl2 hG3 hon hbe hb3 hf hbw
                  generalize cls R L.length k = l0 at *
                  have HL3 := Lib.hid hlp
                  clear hlp
                  go_wp2_with (first
                    | (at_builtin; refine wpList_append_own_at _ rfl _ _ 45 rfl w2.heap.size 22 i0 (.slice none 0 0) 1 24 Tryd.underlying45 hi0 hz0 hz1 hz2 rfl (by decide) _ _ _ rfl (ho3.alloc _) ⟨wr.heap.size, 0, none⟩ 1 1 [.slice (some ⟨gl, 0, none⟩) l0.length capl] rfl rfl (news1 _ _ _) ?c2 ?c3 ?c4 ?c5 ?_))
                  case c2 => intro x hx; simp at hx; rw [hx]; rfl
                  case c3 => unfold maxLen; omega
                  case c4 => omega
                  case c5 => simp; omega
                  intro v' w10 hown' hgrow _ hloc
                  obtain ⟨hin, hgl1, hgl2, hG3, hon, hbe, hb3⟩ := HQ.out
                  have hba := (Below.refl wr.heap.size wr).alloc (Nat.le_refl _) (.cells #[.slice (some ⟨gl, 0, none⟩) l0.length capl] 22)
                  have hG11 := (hG3.below hba).push (l := l0) hown' hgrow (by simpa using hloc) (hin.below hba) (fun kk hkk => by
                    cases hkk
                    refine ⟨by simp; omega, fun e => ?_⟩
                    have := (HG2.out.own.lt gl e).2
                    omega)
                  rw [← hon] at hG11
                  have hb10 := (hbe.alloc hsz3 (.cells #[.slice (some ⟨gl, 0, none⟩) l0.length capl] 22)).grown hgrow (by simp; omega) (fun kk hkk => (hG3.own.lt kk hkk).1)
                  have HR2 := Lib.hid (And.intro hG11 hb10)
                  clear hin hgl1 hgl2 hG3 hon hbe hb3 hba hG11 hb10 hown' hgrow hloc ho3 hlt
                  go_wp2_with (fail)
                  go_roundw
                  case rel => exact ⟨k + 1, _, hlt'.out, by go_num, HR2.out.1, HR2.out.2⟩
                  case measure => have := hlt'.out; simp [intOf]; omega
                · rw [if_neg hf] at hon
                  have hfb : ((cls R L.length k).getD 0 0 == (k : Int)) = false := by rw [beq_eq_false_iff_ne]; exact hf
                  have HQ := Lib.hid (And.intro hG3 (And.intro hon hbe))
                  generalize (cls R L.length k).getD 0 0 = f at hc0 hfb
                  clear hin hgl1 hgl2 hG3 hon hbe hb3 hf hlp hlt
                  go_wp2_with (fail)
                  go_roundw
                  case rel => exact ⟨k + 1, vs2, hlt'.out, by go_num, by rw [HQ.out.2.1]; exact HQ.out.1, HQ.out.2.2⟩
                  case measure => have := hlt'.out; simp [intOf]; omega
          · obtain rfl : k = L.length := by omega
            have hC := outK_comps HR.out
            have HQ := Lib.hid (And.intro hG2.toRows (And.intro hC (hb.trans (hb2.mono hb2s))))
            clear hG2 hC hlt hk
            go_wp2_with (fail)
            go_ret
            exact ⟨⟨_, _, rfl, HQ.out.1, fun _ => HQ.out.2.1, fun h => absurd h hbig⟩, HQ.out.2.2⟩
end

end Go.Proofs.YtijnekbhpdcemaaDoor
