/- The document's Reach. -/
import Derived.Test.YtijnekbhpdcemaaDoorGrReach
import Derived.Test.YtijnekbhpdcemaaDoorGrPut
import Derived.Test.YtijnekbhpdcemaaDoorGrWay
namespace Go.Proofs.YtijnekbhpdcemaaDoor
open Go.RowKit
set_option linter.unusedVariables false
set_option linter.unusedSimpArgs false

def lenOf : Value → Nat
  | .slice _ n _ => n
  | _ => 0
theorem CellsV.grown {w w' : World} {row : Option Nat} {v : Value} {n : Nat} {xs : List Value} (h : CellsV w v n xs) (hg : w.grownBy w' row) (hne : ∀ k, row = some k → v.ownBlock ≠ some k) : CellsV w' v n xs := by
  obtain ⟨a, c, rfl, hn, hc, h0, hx⟩ := h
  refine ⟨a, c, rfl, hn, hc, h0, fun i hi => ?_⟩
  obtain ⟨b, off, ha, hcell⟩ := hx i hi
  refine ⟨b, off, ha, hg.cell hcell (fun e => hne b e.symm ?_)⟩
  rw [ha]; rfl
theorem IntsV.grown {w w' : World} {row : Option Nat} {v : Value} {l : List Int} (h : IntsV w v l) (hg : w.grownBy w' row) (hne : ∀ k, row = some k → v.ownBlock ≠ some k) : IntsV w' v l := CellsV.grown h hg hne
theorem put_len {l r : List Int} {x : Int} (h : PutIs l x r) (hx : x ∉ l) : r.length = l.length + 1 := by
  obtain ⟨k, hk, _, _, h1⟩ := h
  rcases h1 with ⟨h1, h2, h3⟩ | ⟨_, h3⟩
  · exact absurd (h2 ▸ get_mem (by omega)) hx
  · rw [h3]; simp; omega

def ReachPost (L : List (List Int)) (a : Int) (w : World) (e : Ending) (w' : World) : Prop :=
  (∃ v l, e = .returned v ∧ IntsV w' v l ∧ (∀ k, v.ownBlock = some k → w.heap.size ≤ k) ∧ Rising l ∧ (∀ j, j ∈ l ↔ Reaches L a j) ∧ l.length ≤ L.length) ∧ Below w.heap.size w w'

/-- between two nodes -/
def ReachR (L : List (List Int)) (a : Int) (B : Nat) (w : World) (x y : Value) (W : World) : Prop :=
  ∃ out todo, IntsV W x out ∧ QRow W B y (todo.map (.int .i64)) ∧ x.ownBlock ≠ y.ownBlock ∧ (∀ k, x.ownBlock = some k → B ≤ k) ∧ Below B w W ∧ RState L a out todo ∧ todo.length ≤ out.length
/-- within a node -/
def ReachI (L : List (List Int)) (a i : Int) (B : Nat) (w : World) (o t : Nat) (k : Nat) (x y : Value) (W : World) : Prop :=
  ∃ out todo, IntsV W x out ∧ QRow W B y (todo.map (.int .i64)) ∧ x.ownBlock ≠ y.ownBlock ∧ (∀ k, x.ownBlock = some k → B ≤ k) ∧ Below B w W ∧ RIn L a i k out todo ∧ todo.length ≤ out.length ∧ o ≤ out.length ∧ todo.length + o = t + out.length

theorem QRow.nonnil {W : World} {B : Nat} {y : Value} {xs : List Value} (h : QRow W B y xs) : ∃ g off cap, y = .slice (some ⟨g, off, none⟩) xs.length cap ∧ B ≤ g ∧ g < W.heap.size := by
  obtain ⟨g, off, cap, rfl, h1, h2, h3, h4, _⟩ := h
  exact ⟨g, off, cap, rfl, h1, h4⟩
theorem QRow.below2 {w w' : World} {base : Nat} {v : Value} {xs : List Value} (h : QRow w base v xs) (hb : Below w.heap.size w w') : QRow w' base v xs := by
  obtain ⟨g, off, cap, rfl, h1, h2, h3, h4, hc, hx⟩ := h
  have hbk : w'.heap[g]? = w.heap[g]? := hb.block g h4
  have hcell : ∀ j, w'.cell? ⟨g, j, none⟩ = w.cell? ⟨g, j, none⟩ := fun j => by simp [World.cell?, hbk]
  have hfr : ∀ j, w'.frozen? ⟨g, j, none⟩ = w.frozen? ⟨g, j, none⟩ := fun j => by simp [World.frozen?, hbk]
  exact ⟨g, off, cap, rfl, h1, h2, h3, Nat.lt_of_lt_of_le h4 hb.size, fun j hj => by rw [hcell, hfr]; exact hc j hj, fun j u hu => by rw [hcell]; exact hx j u hu⟩

theorem ints_block {w : World} {v : Value} {l : List Int} (h : IntsV w v l) (h0 : 0 < l.length) : ∃ k, v.ownBlock = some k ∧ k < w.heap.size := by
  obtain ⟨a, n, c, rfl, hn, hnc, hc, hx⟩ := h.open
  obtain ⟨b, off, rfl, hcell⟩ := hx.out 0 (by rw [hn.out]; exact h0)
  exact ⟨b, rfl, World.block_lt_of_cell? _ _ hcell⟩

theorem ReachR.start {L : List (List Int)} {a : Int} (ha : NodeOf L a) (w : World) :
    ReachR L a w.heap.size w (.slice (some ⟨w.heap.size, 0, none⟩) 1 1) (.slice (some ⟨w.heap.size + 1, 0, none⟩) 1 1) ((w.alloc (.cells #[.int .i64 a] 3)).alloc (.cells #[.int .i64 a] 3)) := by
  have hs : (w.alloc (.cells #[.int .i64 a] 3)).heap.size = w.heap.size + 1 := by simp
  refine ⟨[a], [a], ?_, ?_, by simp [Value.ownBlock], fun k hk => by cases hk; exact Nat.le_refl _, ((Below.refl _ _).alloc (Nat.le_refl _) _).alloc (by omega) _, RState.start ha, Nat.le_refl _⟩
  · exact IntsV.of_owns (e := 3) (base := w.heap.size) ((World.ownsRow_lit w #[.int .i64 a] 1 (Nat.le_refl _) (by unfold maxLen; omega) rfl).alloc _)
  · have := QRow.new (w.alloc (.cells #[.int .i64 a] 3)) w.heap.size (.int .i64 a) 3 (by omega)
    rw [hs] at this
    exact this

set_option maxHeartbeats 1600000 in
set_option maxRecDepth 100000 in
theorem reach_any (L : List (List Int)) (rv : Value) (a : Nat) (w : World) (h : RowsV w rv L) (ha : a < L.length) (hn : L.length ≤ 1000000) :
    Calls Tryd.prog 50 #[rv, .int .i64 a] w (ReachPost L a w) := by
  obtain ⟨ra, rn, rc, rfl, hrn, hrc, hrm, hrx⟩ := h.open
  obtain rfl : rn = L.length := hrn.out
  obtain ⟨i0, hi0, hz0, hz1, hz2⟩ := info_parts Tryd.infoInt'
  have HRV := Lib.hid h
  have hst := ReachR.start (L := L) (a := (a : Int)) ⟨by omega, by omega⟩ w
  clear hrx h hrn hrc hrm
  go_enter Tryd.func50, Tryd.ntmps50
  go_wp2_with (fail)
  go_loopw [5, 6] (fun x y W => ReachR L a w.heap.size w x y W) (fun x y _ => 2 * (L.length - lenOf x) + lenOf y)
  case atStart => exact hst
  case round =>
    clear hst
    obtain ⟨out, todo, hx, hy, hxy, hfx, hb, hR, hle⟩ := hrel
    have HFX := Lib.hid hfx
    clear hfx
    obtain ⟨xa, xn, xc, rfl, hxn, hxc, hxm, hxx⟩ := hx.open
    have hol := hR.len
    cases todo with
    | nil =>
      obtain ⟨g, off, cap, rfl, _⟩ := hy.nonnil
      have hfin := Lib.hid (And.intro hx (And.intro hR.rise hR.fin))
      clear hx hR hxx hy
      go_wp2_with (fail)
      go_ret
      exact ⟨⟨_, out, rfl, hfin.out.1, HFX.out, hfin.out.2.1, hfin.out.2.2, hol⟩, hb⟩
    | cons i todo =>
      obtain ⟨g, off, cap, rfl, hg1, hg2⟩ := hy.nonnil
      obtain ⟨_, hi1, hy2⟩ := hy.tail
      have hiN : NodeOf L i := hR.node i (hR.wait i (by simp))
      obtain ⟨ni, rfl⟩ : ∃ ni : Nat, i = ni := ⟨i.toNat, by have := hiN.1; omega⟩
      have hni : ni < L.length := by have := hiN.2; omega
      have hniI : (ni : Int) < (L.length : Int) := by omega
      obtain ⟨rb, ro, xa2, xn2, xc2, rfl, hq0, hq1, hq2, hq3, hq4⟩ := row_at HRV.out ni hni
      have hq0' : wr.cell? ⟨rb, ro + ni, none⟩ = some (.slice xa2 xn2 xc2) := (hb.cell (World.block_lt_of_cell? _ _ hq0)).trans hq0
      have hR2 := hR.take
      have hlen1 : (List.map (Value.int .i64) ((ni : Int) :: todo)).length = todo.length + 1 := by simp
      have htl : todo.length + 1 ≤ 1000000 := by simp only [List.length_cons] at hle; omega
      have htl2 : todo.length ≤ out.length := by simp only [List.length_cons] at hle; omega
      have hcap1 : todo.length + 1 ≤ cap := by
        obtain ⟨_, _, _, hv, _, h3, _⟩ := hy
        cases hv
        rw [hlen1] at h3; exact h3
      have hxo : (Value.slice xa xn xc).ownBlock ≠ some g := hxy
      have hy3 : (cap = 1 ∧ todo = [] ∧ QRow wr w.heap.size (.slice (some ⟨g, off, none⟩) 0 0) (todo.map (.int .i64))) ∨ (1 < cap ∧ QRow wr w.heap.size (.slice (some ⟨g, off + 1, none⟩) todo.length (cap - 1)) (todo.map (.int .i64))) := by
        rcases Nat.lt_or_ge 1 cap with h1 | h1
        · exact .inr ⟨h1, by simpa using hy2⟩
        · have h0 : todo = [] := List.eq_nil_of_length_eq_zero (by omega)
          subst h0
          exact .inl ⟨by simp at hcap1; omega, rfl, g, off, 0, rfl, hg1, Nat.le_refl _, Nat.zero_le _, hg2, fun j hj => absurd hj (Nat.not_lt_zero _), fun j u hu => by simp at hu⟩
      have HHR := Lib.hid (And.intro hR2 hx)
      obtain rfl := hxn.out
      clear hR hR2 hx hy hy2 hle hxy hiN hxx
      rw [hlen1]
      obtain ⟨T, hT⟩ : ∃ T, T = todo.length := ⟨_, rfl⟩
      rcases hy3 with ⟨rfl, rfl, hy3⟩ | ⟨hc1, hy3⟩
      all_goals
        have HY := Lib.hid hy3
        clear hy3
        go_wp2_with (fail)
        go_loopw [5, 6, 8] (fun x y z W => ∃ k : Nat, k ≤ xn2 ∧ z = .int .i64 k ∧ ReachI L a ni w.heap.size w out.length T k x y W) (fun _ _ z _ => xn2 - (intOf z).toNat)
        case atStart => exact ⟨0, Nat.zero_le _, rfl, out, _, HHR.out.2, HY.out, hxo, HFX.out, hb, HHR.out.1, htl2, by omega, by rw [hT]⟩
        case round =>
          clear HY HHR hq0' hb
          obtain ⟨k, hk, rfl, out2, todo2, hx2, hy2, hxy2, hfx2, hb2, hR2, hle2, ho2, ht2⟩ := hrel
          have HFX2 := Lib.hid hfx2
          clear hfx2 HFX
          have hqr : wr.cell? ⟨rb, ro + ni, none⟩ = some (.slice xa2 xn2 xc2) := (hb2.cell (World.block_lt_of_cell? _ _ hq0)).trans hq0
          obtain ⟨xa3, xn3, xc3, rfl, hxn3, hxc3, hxm3, hxx3⟩ := hx2.open
          obtain ⟨g3, off3, cap3, rfl, hg31, hg32⟩ := hy2.nonnil
          simp only [List.length_map] at hy2 hxy2 ⊢
          have ho3 := hR2.len
          obtain rfl := hxn3.out
          have ht3 : todo2.length ≤ 1000000 := by omega
          clear hxx3 hxn3 hxc3 hxm3 hxc hxm
          by_cases hlt : k < xn2
          · obtain ⟨b4, off4, rfl, hj0⟩ := hq4.out k hlt
            have hj1 : wr.cell? ⟨b4, off4 + k, none⟩ = some (.int .i64 ((L.getD ni []).getD k 0)) := (hb2.cell (World.block_lt_of_cell? _ _ hj0)).trans hj0
            have hkL : k < (L.getD ((ni : Int)).toNat []).length := by rw [Int.toNat_natCast, ← hq1.out]; exact hlt
            have hkI : (k : Int) < (xn2 : Int) := by omega
            have hkb : (k : Int) + 1 ≤ 9223372036854775807 := by omega
            clear hq2 hq3
            generalize hj : (L.getD ni []).getD k 0 = j at hj1
            have hjj : (L.getD ((ni : Int)).toNat []).getD k 0 = j := by rw [Int.toNat_natCast]; exact hj
            clear hj hj0
            by_cases hN : 0 ≤ j ∧ j < (L.length : Int)
            · obtain ⟨hN0, hN1⟩ := hN
              have HX := Lib.hid (zhas_any _ out2 j wr hx2)
              by_cases hm : j ∈ out2
              · have hmb : decide (j ∈ out2) = true := decide_eq_true hm
                rw [hmb] at HX
                have HRR : Hid (ReachI L a ni w.heap.size w out.length T (k + 1) (.slice xa3 out2.length xc3) (.slice (some ⟨g3, off3, none⟩) todo2.length cap3) wr) :=
                  Lib.hid ⟨out2, todo2, hx2, hy2, hxy2, HFX2.out, hb2, hR2.skip (fun j' hj' _ => by rw [hjj] at hj'; subst hj'; exact hm), hle2, ho2, ht2⟩
                clear hx2 hy2 hxy2 hR2 hmb hm hjj hkL
                go_wp2_with (first
                  | (go_at_call 21; (with_reducible refine HX.out.mono ?_); rintro e w7 ⟨rfl, rfl⟩))
                go_roundw
                case rel => exact ⟨k + 1, by omega, by go_num, HRR.out⟩
                case measure => simp [intOf]; omega
              · have hmb : decide (j ∈ out2) = false := decide_eq_false hm
                rw [hmb] at HX
                have HP := Lib.hid (zput2_any _ out2 j wr hx2 (by omega))
                have HH := Lib.hid (And.intro hx2 (And.intro hy2 (And.intro hxy2 (And.intro hR2 (And.intro hm (And.intro hjj hkL))))))
                clear hx2 hy2 hxy2 hR2 hmb hm hjj hkL
                go_wp2_with (first
                  | (go_at_call 21; (with_reducible refine HX.out.mono ?_); rintro e w7 ⟨rfl, rfl⟩))
                refine HP.out.mono ?_
                rintro e w7 ⟨⟨v7, r7, rfl, hp7, hv7, ho7⟩, hb7⟩
                obtain ⟨hx2, hy2, hxy2, hR2, hm, hjj, hkL⟩ := HH.out
                have hgk := hy2.below2 hb7
                have hmem := put_len hp7 hm
                obtain ⟨kx, hkx, hkx2⟩ := ints_block hv7 (by omega)
                have hxg : kx ≠ g3 := by
                  rcases ho7 with e | ⟨n9, xs9, e⟩
                  · rw [e] at hkx
                    exact fun e2 => hxy2 (by rw [hkx, e2]; rfl)
                  · have := (e.lt kx hkx).1
                    omega
                have hb7' := hb2.trans (hb7.mono hb2.size)
                have HFX7 : Hid (∀ kk, v7.ownBlock = some kk → w.heap.size ≤ kk) := Lib.hid (fun kk hkk => by
                  rcases ho7 with e | ⟨n9, xs9, e⟩
                  · exact HFX2.out kk (by rw [← e]; exact hkk)
                  · exact Nat.le_trans hb2.size (e.lt kk hkk).1)
                have hsz7 : w.heap.size ≤ w7.heap.size := hb7'.size
                have hR3 := hR2.add hkL hjj ⟨hN0, hN1⟩ hp7
                have hq8 := hgk.below2 ((Below.refl _ _).alloc (Nat.le_refl _) (.cells #[.int .i64 j] 3))
                have hv8 := hv7.below ((Below.refl _ _).alloc (Nat.le_refl _) (.cells #[.int .i64 j] 3))
                have hl7 : todo2.length + 1 ≤ r7.length ∧ out.length ≤ r7.length ∧ (todo2 ++ [j]).length + out.length = T + r7.length := ⟨by omega, by omega, by simp; omega⟩
                have HC8 := Lib.hid (cell_top w7 #[.int .i64 j] 3 w7.heap.size 0 rfl)
                have HH2 := Lib.hid (And.intro hR3 (And.intro hl7 (And.intro hv8 hq8)))
                have HF := Lib.hid (And.intro ht3 (And.intro hsz7 (And.intro hkx (And.intro hkx2 (And.intro hxg (And.intro hb7' (And.intro hg31 (And.intro hlt hk))))))))
                clear hR3 hl7 hv8 hq8 hgk hR2 hm hjj hkL hx2 hy2 hxy2 HH ho7 hp7 ht3 hsz7 hkx hkx2 hxg hb7' hb7 hg31 hg32 hq0 hj1 hmem hT ht2 ho2 hle2 ho3 htl htl2 hcap1 hxo hb2 hqr hN0 hN1 hkI hlt hk HX HP hv7 ha hni hniI hg1 hg2 hol hi1
                try clear hc1
                go_wp2_with (first
                  | (at_builtin; refine wpList_append_q _ rfl _ _ 22 rfl w.heap.size 3 i0 (.int .i64 0) 8 Tryd.underlying22 hi0 hz0 hz1 hz2 rfl _ _ rfl HH2.out.2.2.2 ⟨w7.heap.size, 0, none⟩ 1 (.int .i64 j) rfl HC8.out ?c2 ?c3 ?c4 ?c5 ?_))
                case c2 => rfl
                case c3 => have h1 := HF.out.1; simp only [List.length_map]; unfold maxLen; omega
                case c4 => have h1 := HF.out.1; simp only [List.length_map]; omega
                case c5 => have h1 := HF.out.2.1; simp; omega
                intro v9 w9 hq9 hg9 hl9
                obtain ⟨hR3, hl7, hv8, hq8⟩ := HH2.out
                obtain ⟨ht3, hsz7, hkx, hkx2, hxg, hb7', hg31, hlt, hk⟩ := HF.out
                have hb9 : Below w.heap.size w w9 := (hb7'.alloc hsz7 _).grown hg9 (by simp; omega) (fun kk hkk => by cases hkk; exact hg31)
                have hv9 : IntsV w9 v7 r7 := hv8.grown hg9 (fun kk hkk e => by cases hkk; rw [hkx] at e; cases e; exact hxg rfl)
                have hne9 : v7.ownBlock ≠ v9.ownBlock := fun e => by
                  rcases hl9 with e2 | ⟨kk, e2, e3⟩
                  · rw [hkx, e2] at e; cases e; exact hxg rfl
                  · rw [hkx, e2] at e; cases e; omega
                have HRR : Hid (ReachI L a ni w.heap.size w out.length T (k + 1) v7 v9 w9) :=
                  Lib.hid ⟨r7, todo2 ++ [j], hv9, by rw [List.map_append]; exact hq9, hne9, HFX7.out, hb9, hR3, by simp; exact hl7.1, hl7.2.1, hl7.2.2⟩
                have hlt' := Lib.hid hlt
                clear hR3 hl7 hv8 hq8 HH2 HF ht3 hsz7 hkx hkx2 hxg hb7' hg31 hlt hk hb9 hv9 hne9 hq9 hg9 hl9
                go_wp2_with (fail)
                go_roundw
                case rel => exact ⟨k + 1, hlt'.out, by go_num, HRR.out⟩
                case measure => have := hlt'.out; simp [intOf]; omega
            · have HRR : Hid (ReachI L a ni w.heap.size w out.length T (k + 1) (.slice xa3 out2.length xc3) (.slice (some ⟨g3, off3, none⟩) todo2.length cap3) wr) :=
                Lib.hid ⟨out2, todo2, hx2, hy2, hxy2, HFX2.out, hb2, hR2.skip (fun j' hj' hN' => by rw [hjj] at hj'; subst hj'; exact absurd hN' hN), hle2, ho2, ht2⟩
              clear hx2 hy2 hxy2 hR2 hjj hkL
              by_cases hN0 : 0 ≤ j
              · have hN1 : ¬ j < (L.length : Int) := fun h => hN ⟨hN0, h⟩
                clear hN
                go_wp2_with (fail)
                go_roundw
                case rel => exact ⟨k + 1, by omega, by go_num, HRR.out⟩
                case measure => simp [intOf]; omega
              · clear hN
                go_wp2_with (fail)
                go_roundw
                case rel => exact ⟨k + 1, by omega, by go_num, HRR.out⟩
                case measure => simp [intOf]; omega
          · have HRR : Hid (ReachR L a w.heap.size w (.slice xa3 out2.length xc3) (.slice (some ⟨g3, off3, none⟩) todo2.length cap3) wr) :=
              Lib.hid ⟨out2, todo2, hx2, hy2, hxy2, HFX2.out, hb2, hR2.fin (by rw [Int.toNat_natCast, ← hq1.out]; omega), hle2⟩
            clear hx2 hy2 hxy2 hR2
            go_wp2_with (fail)
            go_roundw
            case rel => exact HRR.out
            case measure => simp [lenOf]; omega

end Go.Proofs.YtijnekbhpdcemaaDoor
