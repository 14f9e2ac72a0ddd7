/- walk: the components of a relation. -/
import Derived.Test.YtijnekbhpdcemaaDoorGrFrom
import Derived.Deep.Cut
namespace Go.Proofs.YtijnekbhpdcemaaDoor
open Go.RowKit
set_option linter.unusedVariables false
set_option linter.unusedSimpArgs false

theorem Tryd.infoIntW : (Tryd.prog.info? 3).map (fun i => (i.zero, i.size, i.bytes)) = some (some (.int .i64 0), 1, 8) := by kernel_rfl

/-- the walker, just made -/
def TS.raw (k : Nat) : TS := { TS.start with cmp := fun v => if v < (k : Int) then -1 else 0 }
theorem WalkV.made {W : World} {B o l c n : Nat} {rv : Value} (hB : B ≤ W.heap.size) (ho : B ≤ o) (hl : B ≤ l) (hc : B ≤ c) (h1 : o ≠ l) (h2 : o ≠ c) (h3 : l ≠ c)
    (ro : W.rowIs o 3 n (fun _ => .int .i64 0)) (rl : W.rowIs l 3 n (fun _ => .int .i64 0)) (rc : W.rowIs c 3 n (fun _ => .int .i64 0)) :
    WalkV (W.alloc (.cells #[rv, .slice (some ⟨o, 0, none⟩) n n, .slice (some ⟨l, 0, none⟩) n n, .slice (some ⟨c, 0, none⟩) n n, .slice none 0 0, .slice none 0 0, .int .i64 0] 59)) B
      (fun k => if k = W.heap.size then 1 else if k = o then 2 else if k = l then 3 else if k = c then 4 else 0) W.heap.size rv n o l c (.slice none 0 0) (.slice none 0 0) [] (TS.raw 0) := by
  have hlo := ro.lt
  have hll := rl.lt
  have hlc := rc.lt
  exact {
    bas := by simp; omega
    low := fun k hk => by
      show (if _ then _ else _) = _
      rw [if_neg (by omega), if_neg (by omega), if_neg (by omega), if_neg (by omega)]
    new := fun k hk => by
      simp at hk
      show (if _ then _ else _) = _
      rw [if_neg (by omega), if_neg (by omega), if_neg (by omega), if_neg (by omega)]
    tb := if_pos rfl
    to_ := by show (if _ then _ else _) = _; rw [if_neg (by omega), if_pos rfl]
    tl := by show (if _ then _ else _) = _; rw [if_neg (by omega), if_neg (by omega), if_pos rfl]
    tc := by show (if _ then _ else _) = _; rw [if_neg (by omega), if_neg (by omega), if_neg (by omega), if_pos rfl]
    tov := fun k hk => by cases hk
    tcv := fun k hk => by cases hk
    tm := fun c hc => absurd hc (Nat.not_lt_zero _)
    rb := World.rowIs_alloc W _ _ _ (fun i hi => by
      match i, hi with
      | 0, _ => rfl
      | 1, _ => rfl
      | 2, _ => rfl
      | 3, _ => rfl
      | 4, _ => rfl
      | 5, _ => rfl
      | 6, _ => rfl)
    ro := ro.alloc _
    rl := rl.alloc _
    rc := (rc.alloc _).congr (fun i hi => by show _ = Value.int .i64 (if (i : Int) < ((0 : Nat) : Int) then -1 else 0); rw [if_neg (by omega)])
    rov := World.ownsRow_nil _ _ _ _
    rcv := World.ownsRow_nil _ _ _ _
    mem := fun c hc => absurd hc (Nat.not_lt_zero _) }
theorem WalkV.cmp_congr {w : World} {base : Nat} {tag : Nat → Nat} {b : Nat} {rv : Value} {n ob lb cb : Nat} {ov cv : Value} {vs : List Value} {s : TS} (h : WalkV w base tag b rv n ob lb cb ov cv vs s) (f : Int → Int) (hf : ∀ j : Nat, j < n → s.cmp j = f j) :
    WalkV w base tag b rv n ob lb cb ov cv vs { s with cmp := f } where
  bas := h.bas
  low := h.low
  new := h.new
  tb := h.tb
  to_ := h.to_
  tl := h.tl
  tc := h.tc
  tov := h.tov
  tcv := h.tcv
  tm := h.tm
  rb := h.rb
  ro := h.ro
  rl := h.rl
  rc := h.rc.congr (fun j hj => by show Value.int .i64 (s.cmp j) = .int .i64 (f j); rw [hf j hj])
  rov := h.rov
  rcv := h.rcv
  mem := h.mem
theorem raw_next (k : Nat) : { TS.raw k with cmp := upd (TS.raw k).cmp k (-1) } = TS.raw (k + 1) := by
  show TS.mk _ _ (upd (fun v => if v < (k : Int) then -1 else 0) k (-1)) _ _ _ = _
  have : upd (fun v => if v < (k : Int) then -1 else 0) k (-1) = fun v => if v < ((k + 1 : Nat) : Int) then -1 else 0 := by
    funext v; unfold upd
    by_cases e : v = (k : Int)
    · rw [if_pos e, if_pos (by omega)]
    · rw [if_neg e]
      show (if v < (k : Int) then (-1 : Int) else 0) = _
      by_cases e2 : v < (k : Int)
      · rw [if_pos e2, if_pos (by omega)]
      · rw [if_neg e2, if_neg (by omega)]
  rw [this]; rfl

theorem walk_new {w : World} {rv : Value} {n o l c : Nat} (ho : o = w.heap.size ∨ o = w.heap.size + 1 ∨ o = w.heap.size + 1 + 1) (hl : l = w.heap.size ∨ l = w.heap.size + 1 ∨ l = w.heap.size + 1 + 1) (hc : c = w.heap.size ∨ c = w.heap.size + 1 ∨ c = w.heap.size + 1 + 1)
    (h1 : o ≠ l) (h2 : o ≠ c) (h3 : l ≠ c) :
    ∃ tg b ob lb cb, Value.pointer (some ⟨w.heap.size + 1 + 1 + 1, 0, none⟩) = .pointer (some ⟨b, 0, none⟩) ∧
      WalkV (((((w.alloc (.cells (madeCells #[.int .i64 0] n) 3)).alloc (.cells (madeCells #[.int .i64 0] n) 3)).alloc (.cells (madeCells #[.int .i64 0] n) 3)).alloc
        (.cells #[rv, .slice (some ⟨o, 0, none⟩) n n, .slice (some ⟨l, 0, none⟩) n n, .slice (some ⟨c, 0, none⟩) n n, .slice none 0 0, .slice none 0 0, .int .i64 0] 59)).drew) w.heap.size tg b rv n ob lb cb (.slice none 0 0) (.slice none 0 0) [] (TS.raw 0) ∧
      Below w.heap.size w (((((w.alloc (.cells (madeCells #[.int .i64 0] n) 3)).alloc (.cells (madeCells #[.int .i64 0] n) 3)).alloc (.cells (madeCells #[.int .i64 0] n) 3)).alloc
        (.cells #[rv, .slice (some ⟨o, 0, none⟩) n n, .slice (some ⟨l, 0, none⟩) n n, .slice (some ⟨c, 0, none⟩) n n, .slice none 0 0, .slice none 0 0, .int .i64 0] 59)).drew) := by
  have r0 := ((World.rowIs_made w (.int .i64 0) n 3).alloc (.cells (madeCells #[.int .i64 0] n) 3)).alloc (.cells (madeCells #[.int .i64 0] n) 3)
  have r1 := (World.rowIs_made (w.alloc (.cells (madeCells #[.int .i64 0] n) 3)) (.int .i64 0) n 3).alloc (.cells (madeCells #[.int .i64 0] n) 3)
  have r2 := World.rowIs_made ((w.alloc (.cells (madeCells #[.int .i64 0] n) 3)).alloc (.cells (madeCells #[.int .i64 0] n) 3)) (.int .i64 0) n 3
  have s1 : (w.alloc (.cells (madeCells #[.int .i64 0] n) 3)).heap.size = w.heap.size + 1 := by simp
  have s2 : ((w.alloc (.cells (madeCells #[.int .i64 0] n) 3)).alloc (.cells (madeCells #[.int .i64 0] n) 3)).heap.size = w.heap.size + 1 + 1 := by simp
  have s3 : (((w.alloc (.cells (madeCells #[.int .i64 0] n) 3)).alloc (.cells (madeCells #[.int .i64 0] n) 3)).alloc (.cells (madeCells #[.int .i64 0] n) 3)).heap.size = w.heap.size + 1 + 1 + 1 := by simp
  rw [s1] at r1
  rw [s2] at r2
  have hb : Below w.heap.size w (((w.alloc (.cells (madeCells #[.int .i64 0] n) 3)).alloc (.cells (madeCells #[.int .i64 0] n) 3)).alloc (.cells (madeCells #[.int .i64 0] n) 3)) :=
    (((Below.refl _ _).alloc (Nat.le_refl _) _).alloc (by omega) _).alloc (by omega) _
  have hr : ∀ k, (k = w.heap.size ∨ k = w.heap.size + 1 ∨ k = w.heap.size + 1 + 1) → (((w.alloc (.cells (madeCells #[.int .i64 0] n) 3)).alloc (.cells (madeCells #[.int .i64 0] n) 3)).alloc (.cells (madeCells #[.int .i64 0] n) 3)).rowIs k 3 n (fun _ => .int .i64 0) := fun k hk => by
    rcases hk with rfl | rfl | rfl
    · exact r0
    · exact r1
    · exact r2
  have hm := WalkV.made (rv := rv) (B := w.heap.size) (by omega) (by omega) (by omega) (by omega) h1 h2 h3 (hr o ho) (hr l hl) (hr c hc)
  exact ⟨_, _, o, l, c, by rw [s3], hm.drew, (hb.alloc (by omega) _).drew⟩

def WalkPost (L : List (List Int)) (rv : Value) (w : World) (e : Ending) (w' : World) : Prop :=
  ∃ tg b ob lb cb ov cv vs s, e = .returned (.pointer (some ⟨b, 0, none⟩)) ∧ WalkV w' w.heap.size tg b rv L.length ob lb cb ov cv vs s ∧ Scc L s.cmp s.cps ∧ Below w.heap.size w w' ∧ s.cps.length ≤ L.length

set_option maxHeartbeats 8000000 in
set_option maxRecDepth 100000 in
theorem walk_any (L : List (List Int)) (rv : Value) (w : World) (h : RowsV w rv L) (hn : L.length ≤ 1000000) :
    Calls Tryd.prog 47 #[rv] w (WalkPost L rv w) := by
  obtain ⟨ra, rn, rc, rfl, hrn, hrc, hrm, hrx⟩ := h.open
  obtain rfl : rn = L.length := hrn.out
  have HRV := Lib.hid h
  have hmk := fun (W : World) => run_make_row' (P := Tryd.prog) 22 3 (.int .i64 0) 8 Tryd.underlying22 Tryd.infoIntW rfl .i64 .i64 L.length (by omega) (by omega) W
  clear hrx h hrn hrc hrm
  go_enter Tryd.func47, Tryd.ntmps47
  go_wp2_with (fail)
  go_cut [4] from 9 (fun p W => ∃ tg b ob lb cb, p = .pointer (some ⟨b, 0, none⟩) ∧ WalkV W w.heap.size tg b (.slice ra L.length rc) L.length ob lb cb (.slice none 0 0) (.slice none 0 0) [] (TS.raw 0) ∧ Below w.heap.size w W)
  case first =>
    go_region
    all_goals go_wp2_with (fail)
    all_goals go_meet
    all_goals exact walk_new (by first | exact .inl rfl | exact .inr (.inl rfl) | exact .inr (.inr rfl)) (by first | exact .inl rfl | exact .inr (.inl rfl) | exact .inr (.inr rfl)) (by first | exact .inl rfl | exact .inr (.inl rfl) | exact .inr (.inr rfl)) (by omega) (by omega) (by omega)
  case rest =>
    obtain ⟨tg, b, ob, lb, cb, rfl, hw, hb⟩ := hcut
    clear hmk
    have hc3 : wc.cell? ⟨b, 3, none⟩ = some (.slice (some ⟨cb, 0, none⟩) L.length L.length) := hw.rb.cell (i := 3) (by omega)
    have HW := Lib.hid hw
    clear hw
    go_wp2_with (fail)
    go_loopw [23] (fun x wr => ∃ k : Nat, k ≤ L.length ∧ x = .int .i64 k ∧ WalkV wr w.heap.size tg b (.slice ra L.length rc) L.length ob lb cb (.slice none 0 0) (.slice none 0 0) [] (TS.raw k) ∧ Below w.heap.size w wr) (fun x _ => L.length - (intOf x).toNat)
    case atStart => exact ⟨0, Nat.zero_le _, rfl, HW.out, hb⟩
    case round =>
      obtain ⟨k, hk, rfl, hw, hbr⟩ := hrel
      clear hc3 HW hb
      by_cases hlt : k < L.length
      · have hkI : (k : Int) < (L.length : Int) := by omega
        obtain ⟨⟨c0, c1, c2, c3, c4, c5, c6⟩, f1, f2, f3, f4, ⟨d1, d2, d3⟩, ⟨l1, l2, l3, l4⟩⟩ := hw.cells
        have q1 := hw.rc.cell hlt
        have hw2 := hw.setCmp k (-1)
        rw [raw_next] at hw2
        have hb2 := hbr.setCell (p := ⟨cb, k, none⟩) (by
          show w.heap.size ≤ cb
          rcases Nat.lt_or_ge cb w.heap.size with h | h
          · have := hw.low cb h; have := hw.tc; omega
          · exact h) (.int .i64 (-1))
        have HW := Lib.hid hw2
        clear hw hw2
        go_wp2_with (fail)
        go_roundw
        case rel => exact ⟨k + 1, by omega, by go_num, HW.out, hb2⟩
        case measure => simp [intOf]; omega
      · obtain rfl : k = L.length := by omega
        have hw3 : WalkV wr w.heap.size tg b (.slice ra L.length rc) L.length ob lb cb (.slice none 0 0) (.slice none 0 0) [] TS.start := by
          have := hw.cmp_congr (fun _ => -1) (fun j hj => by show (if (j : Int) < (L.length : Int) then (-1 : Int) else 0) = -1; rw [if_pos (by omega)])
          exact this
        have HW := Lib.hid hw3
        clear hw hw3 hlt hk
        go_wp2_with (fail)
        rename_i wr0 _
        go_loopw [35] (fun x wr => ∃ k : Nat, k ≤ L.length ∧ x = .int .i64 k ∧ Below w.heap.size w wr ∧ ∃ tg ov cv vs s, WalkV wr w.heap.size tg b (.slice ra L.length rc) L.length ob lb cb ov cv vs s ∧ Tj L s [] ∧ Cnt L.length s 0 ∧ ∀ j : Nat, j < k → s.ord j ≠ 0) (fun x _ => L.length - (intOf x).toNat)
        case atStart => exact ⟨0, Nat.zero_le _, rfl, hbr, tg, _, _, _, _, HW.out, Tj.start L, Cnt.start _, fun j hj => absurd hj (Nat.not_lt_zero _)⟩
        case round =>
          clear hbr HW
          obtain ⟨k, hk, rfl, hbr, tg2, ov, cv, vs, s, hw, ht, hc, hmet⟩ := hrel
          by_cases hlt : k < L.length
          · have hkI : (k : Int) < (L.length : Int) := by omega
            obtain ⟨⟨c0, c1, c2, c3, c4, c5, c6⟩, f1, f2, f3, f4, ⟨d1, d2, d3⟩, ⟨l1, l2, l3, l4⟩⟩ := hw.cells
            have q1 := hw.ro.cell hlt
            by_cases h0 : s.ord k = 0
            · rw [h0] at q1
              have hlow := hw.low
              have hbas := hw.bas
              have HX := Lib.hid (from_any L w.heap.size tg2 b (.slice ra L.length rc) ob lb cb ov cv vs s k wr hw (fun W hW => HRV.out.below (hbr.trans hW)) hn ht hc hlt h0)
              have HMT := Lib.hid hmet
              have HLO := Lib.hid hlow
              clear hw ht hc hmet hlow
              go_wp2_with (first
                | (go_at_call 55; refine HX.out.mono ?_; rintro e w9 ⟨rfl, tg9, ov9, cv9, vs9, s9, h9, k9, t9, c9, m9, r9⟩))
              have hb9 : Below w.heap.size w w9 := hbr.trans (k9.below hbas HLO.out)
              go_roundw
              case rel => exact ⟨k + 1, by omega, by go_num, hb9, tg9, ov9, cv9, vs9, s9, h9, t9, c9, fun j hj => by
                by_cases e : j = k
                · subst e; exact r9
                · exact m9 j (HMT.out j (by omega))⟩
              case measure => simp [intOf]; omega
            · have h0' : (s.ord k == 0) = false := by rw [beq_eq_false_iff_ne]; exact h0
              have HH : Hid (∃ tg ov cv vs s, WalkV wr w.heap.size tg b (.slice ra L.length rc) L.length ob lb cb ov cv vs s ∧ Tj L s [] ∧ Cnt L.length s 0 ∧ ∀ j : Nat, j < k + 1 → s.ord j ≠ 0) := Lib.hid ⟨tg2, ov, cv, vs, s, hw, ht, hc, fun j hj => by
                by_cases e : j = k
                · subst e; exact h0
                · exact hmet j (by omega)⟩
              clear hw ht hc hmet
              go_wp2_with (fail)
              go_roundw
              case rel => exact ⟨k + 1, by omega, by go_num, hbr, HH.out⟩
              case measure => simp [intOf]; omega
          · obtain rfl : k = L.length := by omega
            have hsc : Scc L s.cmp s.cps := ht.done (fun v hv => by
              obtain ⟨h1, h2⟩ := hv
              have := hmet v.toNat (by omega)
              rwa [Int.toNat_of_nonneg h1] at this)
            have HH := Lib.hid (And.intro hw (And.intro hsc hc.le.2.2.1))
            clear hw ht hc hmet hsc
            go_wp2_with (fail)
            go_ret
            exact ⟨tg2, b, ob, lb, cb, ov, cv, vs, s, rfl, HH.out.1, HH.out.2.1, hbr, HH.out.2.2⟩

end Go.Proofs.YtijnekbhpdcemaaDoor
