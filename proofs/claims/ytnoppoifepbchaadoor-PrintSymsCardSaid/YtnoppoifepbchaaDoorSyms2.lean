/- The law of symbols' texts, walked. -/
import Derived.Test.YtnoppoifepbchaaDoorSymsP
namespace Go.Proofs.YtnoppoifepbchaaDoor
open Go.RowKit
set_option linter.unusedVariables false
set_option linter.unusedSimpArgs false

set_option maxRecDepth 100000 in
set_option maxHeartbeats 16000000 in
theorem printSyms_law (c : Int) (s : ByteArray) (n : Int) (hcw : (Lit.int .u8 c).wf = true) (hs : s.size ≤ maxLen) (hnw : (Lit.int .i64 n).wf = true) {w : World} (hE : Env w) :
    Calls Tryd.prog 7 #[.int .u8 c, .string s, .int .i64 n] w fun e w' => e = .returned (.bool true) ∧ Below w.heap.size w w' := by
  have HE := Lib.hid hE
  clear hE
  have hc : 0 ≤ c ∧ c ≤ 255 := by simpa [Lit.wf, IntKind.min, IntKind.max, IntKind.signed, IntKind.bits] using hcw
  have hn0 : -9223372036854775808 ≤ n ∧ n ≤ 9223372036854775807 := by simpa [Lit.wf, IntKind.min, IntKind.max, IntKind.signed, IntKind.bits] using hnw
  have hc1 : ∀ (w : World), (convert 63 9 (.slice (some ⟨w.heap.size,0,none⟩) 1 1)).run Tryd.prog (w.alloc (.cells #[.int .u8 c] 5)) = .ok (.string (bytesOf [c])) (w.alloc (.cells #[.int .u8 c] 5)) :=
    fun w => run_conv_new w _ _ _ [c] 1 Tryd.underlying63 Tryd.underlying5 Tryd.underlying9
  have HW := Lib.hid (wakes8_any w HE.out)
  have HC : ∀ W, Calls Tryd.prog 22 #[.string s, .int .i64 25] W fun e w' => e = .returned (.string (cutT s 25)) ∧ W = w' := fun W => text_25 s W hs
  have hm : (cutT s 25).size ≤ 25 := cutT_size s 25
  generalize cutT s 25 = nm at HC hm
  clear hs
  go_enter Tryd.func7, Tryd.ntmps7
  go_upto_region 5 with (first
    | (go_at_call 14; (with_reducible refine HW.out.mono ?_); rintro e w1 ⟨rfl, hbw⟩)
    | (go_at_call 22; (with_reducible refine (HC _).mono ?_); rintro e w' ⟨rfl, rfl⟩))
  have HE1 := Lib.hid (HE.out.below hbw)
  have hb1 := (Below.refl w1.heap.size w1).alloc (Nat.le_refl _) (.cells #[.int .u8 c] 5)
  have hs1 : (w1.alloc (.cells #[.int .u8 c] 5)).heap.size = w1.heap.size + 1 := World.size_alloc _ _
  generalize w1.alloc (.cells #[.int .u8 c] 5) = v1 at hb1 hs1 ⊢
  have S1 := heap_new v1 #[.string (bytesOf [c]), .bool true, .int .i64 0, .int .i64 0, .string ⟨#[65]⟩, .bool false, .int .i64 n, .int .i64 0] 40 (w1.heap.size + 1) hs1.symm
  have hb2 := hb1.alloc hb1.size (.cells #[.string (bytesOf [c]), .bool true, .int .i64 0, .int .i64 0, .string ⟨#[65]⟩, .bool false, .int .i64 n, .int .i64 0] 40)
  have hs2 : (v1.alloc (.cells #[.string (bytesOf [c]), .bool true, .int .i64 0, .int .i64 0, .string ⟨#[65]⟩, .bool false, .int .i64 n, .int .i64 0] 40)).heap.size = w1.heap.size + 1 + 1 := by rw [World.size_alloc, hs1]
  generalize v1.alloc (.cells #[.string (bytesOf [c]), .bool true, .int .i64 0, .int .i64 0, .string ⟨#[65]⟩, .bool false, .int .i64 n, .int .i64 0] 40) = v2 at S1 hb2 hs2 ⊢
  have D2 := heap_new v2 #[.int .i64 1, .string ⟨#[]⟩, .slice (some ⟨w1.heap.size + 1, 0, none⟩) 2 2, .int .i64 0] 51 (w1.heap.size + 1 + 1) hs2.symm
  have S2 := heap_put v2 (.cells #[.int .i64 1, .string ⟨#[]⟩, .slice (some ⟨w1.heap.size + 1, 0, none⟩) 2 2, .int .i64 0] 51) S1
  have hb3 := hb2.alloc hb2.size (.cells #[.int .i64 1, .string ⟨#[]⟩, .slice (some ⟨w1.heap.size + 1, 0, none⟩) 2 2, .int .i64 0] 51)
  have hs3 : (v2.alloc (.cells #[.int .i64 1, .string ⟨#[]⟩, .slice (some ⟨w1.heap.size + 1, 0, none⟩) 2 2, .int .i64 0] 51)).heap.size = w1.heap.size + 1 + 1 + 1 := by rw [World.size_alloc, hs2]
  generalize v2.alloc (.cells #[.int .i64 1, .string ⟨#[]⟩, .slice (some ⟨w1.heap.size + 1, 0, none⟩) 2 2, .int .i64 0] 51) = v3 at S2 D2 hb3 hs3 ⊢
  have P3 := heap_new v3 #[.string (bytesOf [c]), .bool true, .int .i64 0, .int .i64 0, .string ⟨#[]⟩, .int .i64 0] 44 (w1.heap.size + 1 + 1 + 1) hs3.symm
  have S3 := heap_put v3 (.cells #[.string (bytesOf [c]), .bool true, .int .i64 0, .int .i64 0, .string ⟨#[]⟩, .int .i64 0] 44) S2
  have D3 := heap_put v3 (.cells #[.string (bytesOf [c]), .bool true, .int .i64 0, .int .i64 0, .string ⟨#[]⟩, .int .i64 0] 44) D2
  have hb4 := hb3.alloc hb3.size (.cells #[.string (bytesOf [c]), .bool true, .int .i64 0, .int .i64 0, .string ⟨#[]⟩, .int .i64 0] 44)
  have hs4 : (v3.alloc (.cells #[.string (bytesOf [c]), .bool true, .int .i64 0, .int .i64 0, .string ⟨#[]⟩, .int .i64 0] 44)).heap.size = w1.heap.size + 1 + 1 + 1 + 1 := by rw [World.size_alloc, hs3]
  generalize v3.alloc (.cells #[.string (bytesOf [c]), .bool true, .int .i64 0, .int .i64 0, .string ⟨#[]⟩, .int .i64 0] 44) = v4 at S3 D3 P3 hb4 hs4 ⊢
  have A4 := heap_new v4 #[.slice (some ⟨w1.heap.size + 1 + 1 + 1, 0, none⟩) 1 1, .string ⟨#[]⟩, .bool false, .int .i64 0, .int .i64 0, .int .i64 0] 42 (w1.heap.size + 1 + 1 + 1 + 1) hs4.symm
  have S4 := heap_put v4 (.cells #[.slice (some ⟨w1.heap.size + 1 + 1 + 1, 0, none⟩) 1 1, .string ⟨#[]⟩, .bool false, .int .i64 0, .int .i64 0, .int .i64 0] 42) S3
  have D4 := heap_put v4 (.cells #[.slice (some ⟨w1.heap.size + 1 + 1 + 1, 0, none⟩) 1 1, .string ⟨#[]⟩, .bool false, .int .i64 0, .int .i64 0, .int .i64 0] 42) D3
  have P4 := heap_put v4 (.cells #[.slice (some ⟨w1.heap.size + 1 + 1 + 1, 0, none⟩) 1 1, .string ⟨#[]⟩, .bool false, .int .i64 0, .int .i64 0, .int .i64 0] 42) P3
  have hb5 := hb4.alloc hb4.size (.cells #[.slice (some ⟨w1.heap.size + 1 + 1 + 1, 0, none⟩) 1 1, .string ⟨#[]⟩, .bool false, .int .i64 0, .int .i64 0, .int .i64 0] 42)
  have hs5 : (v4.alloc (.cells #[.slice (some ⟨w1.heap.size + 1 + 1 + 1, 0, none⟩) 1 1, .string ⟨#[]⟩, .bool false, .int .i64 0, .int .i64 0, .int .i64 0] 42)).heap.size = w1.heap.size + 1 + 1 + 1 + 1 + 1 := by rw [World.size_alloc, hs4]
  generalize v4.alloc (.cells #[.slice (some ⟨w1.heap.size + 1 + 1 + 1, 0, none⟩) 1 1, .string ⟨#[]⟩, .bool false, .int .i64 0, .int .i64 0, .int .i64 0] 42) = v5 at S4 D4 P4 A4 hb5 hs5 ⊢
  have R5 := heap_new v5 #[.string nm, .slice (some ⟨w1.heap.size + 1 + 1 + 1 + 1, 0, none⟩) 1 1, .int .i64 0] 37 (w1.heap.size + 1 + 1 + 1 + 1 + 1) hs5.symm
  have S5 := heap_put v5 (.cells #[.string nm, .slice (some ⟨w1.heap.size + 1 + 1 + 1 + 1, 0, none⟩) 1 1, .int .i64 0] 37) S4
  have D5 := heap_put v5 (.cells #[.string nm, .slice (some ⟨w1.heap.size + 1 + 1 + 1 + 1, 0, none⟩) 1 1, .int .i64 0] 37) D4
  have P5 := heap_put v5 (.cells #[.string nm, .slice (some ⟨w1.heap.size + 1 + 1 + 1 + 1, 0, none⟩) 1 1, .int .i64 0] 37) P4
  have A5 := heap_put v5 (.cells #[.string nm, .slice (some ⟨w1.heap.size + 1 + 1 + 1 + 1, 0, none⟩) 1 1, .int .i64 0] 37) A4
  have hb6 := hb5.alloc hb5.size (.cells #[.string nm, .slice (some ⟨w1.heap.size + 1 + 1 + 1 + 1, 0, none⟩) 1 1, .int .i64 0] 37)
  have hs6 : (v5.alloc (.cells #[.string nm, .slice (some ⟨w1.heap.size + 1 + 1 + 1 + 1, 0, none⟩) 1 1, .int .i64 0] 37)).heap.size = w1.heap.size + 1 + 1 + 1 + 1 + 1 + 1 := by rw [World.size_alloc, hs5]
  generalize v5.alloc (.cells #[.string nm, .slice (some ⟨w1.heap.size + 1 + 1 + 1 + 1, 0, none⟩) 1 1, .int .i64 0] 37) = v6 at S5 D5 P5 A5 R5 hb6 hs6 ⊢
  have hD := decl_laid S5 D5
  have hR := rule_laid P5 A5 R5
  have C : Hid (∀ W, Below (v6.alloc (.cells #[.string ⟨#[]⟩, .slice (some ⟨w1.heap.size + 1 + 1, 0, none⟩) 1 1, .slice (some ⟨w1.heap.size + 1 + 1 + 1 + 1 + 1, 0, none⟩) 1 1, .string ⟨#[]⟩] 29)).heap.size (v6.alloc (.cells #[.string ⟨#[]⟩, .slice (some ⟨w1.heap.size + 1 + 1, 0, none⟩) 1 1, .slice (some ⟨w1.heap.size + 1 + 1 + 1 + 1 + 1, 0, none⟩) 1 1, .string ⟨#[]⟩] 29)) W → ∀ i u, (#[.string ⟨#[]⟩, .slice (some ⟨w1.heap.size + 1 + 1, 0, none⟩) 1 1, .slice (some ⟨w1.heap.size + 1 + 1 + 1 + 1 + 1, 0, none⟩) 1 1, .string ⟨#[]⟩] : Array Value)[i]? = some u → W.cell? ⟨w1.heap.size + 1 + 1 + 1 + 1 + 1 + 1, i, none⟩ = some u) := Lib.hid (fun W hW i u hu => by
    have := box1 (w := v6) hW i u hu
    rwa [hs6] at this)
  have hb7 := hb6.alloc hb6.size (.cells #[.string ⟨#[]⟩, .slice (some ⟨w1.heap.size + 1 + 1, 0, none⟩) 1 1, .slice (some ⟨w1.heap.size + 1 + 1 + 1 + 1 + 1, 0, none⟩) 1 1, .string ⟨#[]⟩] 29)
  have hbb := (Below.refl v6.heap.size v6).alloc (Nat.le_refl _) (.cells #[.string ⟨#[]⟩, .slice (some ⟨w1.heap.size + 1 + 1, 0, none⟩) 1 1, .slice (some ⟨w1.heap.size + 1 + 1 + 1 + 1 + 1, 0, none⟩) 1 1, .string ⟨#[]⟩] 29)
  have hS : SoV (v6.alloc (.cells #[.string ⟨#[]⟩, .slice (some ⟨w1.heap.size + 1 + 1, 0, none⟩) 1 1, .slice (some ⟨w1.heap.size + 1 + 1 + 1 + 1 + 1, 0, none⟩) 1 1, .string ⟨#[]⟩] 29)) (.agg #[.string ⟨#[]⟩, .slice (some ⟨w1.heap.size + 1 + 1, 0, none⟩) 1 1, .slice (some ⟨w1.heap.size + 1 + 1 + 1 + 1 + 1, 0, none⟩) 1 1, .string ⟨#[]⟩]) (symsS (bytesOf [c]) nm n) := ⟨_, _, rfl, hD.below hbb, hR.below hbb⟩
  generalize v6.alloc (.cells #[.string ⟨#[]⟩, .slice (some ⟨w1.heap.size + 1 + 1, 0, none⟩) 1 1, .slice (some ⟨w1.heap.size + 1 + 1 + 1 + 1 + 1, 0, none⟩) 1 1, .string ⟨#[]⟩] 29) = w2 at C hb7 hS ⊢
  have q0 := fun (W : World) hW => C.out W hW 0 _ rfl
  have q1 := fun (W : World) hW => C.out W hW 1 _ rfl
  have q2 := fun (W : World) hW => C.out W hW 2 _ rfl
  have q3 := fun (W : World) hW => C.out W hW 3 _ rfl
  have Q0 := Lib.hid q0
  have Q1 := Lib.hid q1
  have Q2 := Lib.hid q2
  have Q3 := Lib.hid q3
  clear q0 q1 q2 q3
  have hsm := symsS_small (bytesOf [c]) nm n (by rw [bytes_size]; simp) (by omega)
  have HM := Lib.hid (fun (W : World) (hW : Below w2.heap.size w2 W) => pmay_any _ _ W (hS.below hW) hsm.1 (HE1.out.below (hb7.trans (hW.mono hb7.size))).max)
  have HX := Lib.hid (fun (W : World) (hW : Below w2.heap.size w2 W) => ptext_any _ _ W (hS.below hW) hsm.1 hsm.2 (HE1.out.below (hb7.trans (hW.mono hb7.size))))
  have b2 := Below.refl w2.heap.size w2
  have HQ := fun W => quote_any c W hc.1 hc.2
  have HN := fun W => rname_any nm W (by omega)
  have hql := quoteL_size c
  clear C hb1 hb2 hb3 hb4 hb5 hb6 hs1 hs2 hs3 hs4 hs5 hs6 S1 S2 S3 S4 S5 D2 D3 D4 D5 P3 P4 P5 A4 A5 R5 hD hR hbb hS hsm hcw hnw HW hc1
  by_cases hq : quotB c = true
  case neg =>
    have hq0 : quotB c = false := by simpa using hq
    have e0 : quoteL c = [] := (quoteL_some c).2 hq0
    have hmay : maySo (symsS (bytesOf [c]) nm n) = false := by rw [syms_may c n nm hc.1 hc.2]; rw [hq0]; rfl
    have htx : soT (symsS (bytesOf [c]) nm n) = [] := by unfold soT; rw [if_neg (by rw [hmay]; simp)]
    rw [hmay] at HM
    rw [htx] at HX
    clear hmay htx
    rw [e0] at HQ
    have d1 : ((bytesOf []).toList == []) = true := by rw [Lib.toList_data]; rfl
    generalize bytesOf [] = q at HQ d1
    clear hq e0 hql HN
    go_wp2_with (first
      | (go_at_call 23; (with_reducible refine (HQ _).mono ?_); rintro e w3 ⟨rfl, b3⟩; have hb3 := b2.trans (b3.mono b2.size); have a0 := Q0.out _ hb3; have a1 := Q1.out _ hb3; have a2 := Q2.out _ hb3; have a3 := Q3.out _ hb3)
      | (go_at_call 16; (with_reducible refine (HM.out _ hb3).mono ?_); rintro e w4 ⟨rfl, b4⟩; have hb4 := hb3.trans (b4.mono hb3.size); have c0 := Q0.out _ hb4; have c1 := Q1.out _ hb4; have c2 := Q2.out _ hb4; have c3 := Q3.out _ hb4)
      | (go_at_call 18; (with_reducible refine (HX.out _ hb4).mono ?_); rintro e w5 ⟨T5, rfl, hT5, b5⟩; have t5 := text_is hT5; have hb5 := hb4.trans (b5.mono hb4.size)))
    go_ret
    exact ⟨ret_bool (by simp [t5]), hbw.trans ((hb7.trans (hb5.mono hb7.size)).mono hbw.size)⟩
  have d1 : ((bytesOf (quoteL c)).toList == []) = false := by
    have hne : quoteL c ≠ [] := fun h => by rw [(quoteL_some c).1 h] at hq; cases hq
    have h2 := bytes_size (quoteL c)
    rw [beq_eq_false_iff_ne]
    intro h
    rw [Lib.toList_data] at h
    have h3 : (bytesOf (quoteL c)).size = 0 := by have := congrArg List.length h; simpa using this
    rw [h2] at h3
    exact hne (List.eq_nil_of_length_eq_zero h3)
  have hG : ∀ D : ByteArray, isNameB nm = true → (n = 0 ∨ 1 ≤ n ∧ n ≤ 50000) → D.data.toList = (if n = 0 then [] else 32 :: (numT n).data.toList) → soT (symsS (bytesOf [c]) nm n) = (symsT (bytesOf (quoteL c)) nm D).data.toList := fun D h1 h2 h3 => syms_text c n nm D hc.1 hc.2 hq h2 h1 h3
  have HGd := Lib.hid hG
  clear hG
  generalize quoteL c = ql at HQ d1 hql HGd
  generalize bytesOf ql = q at HQ d1 hql HGd
  by_cases hi : isNameB nm = true
  case neg =>
    have hi0 : isNameB nm = false := by simpa using hi
    have hmay : maySo (symsS (bytesOf [c]) nm n) = false := by rw [syms_may c n nm hc.1 hc.2]; rw [hq, hi0]; simp
    have htx : soT (symsS (bytesOf [c]) nm n) = [] := by unfold soT; rw [if_neg (by rw [hmay]; simp)]
    rw [hmay] at HM
    rw [htx] at HX
    clear hmay htx
    rw [hi0] at HN
    clear hi hi0 HGd
    go_wp2_with (first
      | (go_at_call 23; (with_reducible refine (HQ _).mono ?_); rintro e w3 ⟨rfl, b3⟩; have hb3 := b2.trans (b3.mono b2.size); have a0 := Q0.out _ hb3; have a1 := Q1.out _ hb3; have a2 := Q2.out _ hb3; have a3 := Q3.out _ hb3)
      | (go_at_call 22; (with_reducible refine (HC _).mono ?_); rintro e w' ⟨rfl, rfl⟩)
      | (go_at_call 24; (with_reducible refine (HN _).mono ?_); rintro e w' ⟨rfl, rfl⟩)
      | (go_at_call 16; (with_reducible refine (HM.out _ hb3).mono ?_); rintro e w4 ⟨rfl, b4⟩; have hb4 := hb3.trans (b4.mono hb3.size); have c0 := Q0.out _ hb4; have c1 := Q1.out _ hb4; have c2 := Q2.out _ hb4; have c3 := Q3.out _ hb4)
      | (go_at_call 18; (with_reducible refine (HX.out _ hb4).mono ?_); rintro e w5 ⟨T5, rfl, hT5, b5⟩; have t5 := text_is hT5; have hb5 := hb4.trans (b5.mono hb4.size)))
    go_ret
    exact ⟨ret_bool (by simp [t5]), hbw.trans ((hb7.trans (hb5.mono hb7.size)).mono hbw.size)⟩
  by_cases hlo : n < 0
  case pos =>
    have d2 : decide (n < 0) = true := decide_eq_true hlo
    have hmay : maySo (symsS (bytesOf [c]) nm n) = false := by rw [syms_may c n nm hc.1 hc.2]; rw [hq, hi, decide_eq_false (by omega)]; rfl
    have htx : soT (symsS (bytesOf [c]) nm n) = [] := by unfold soT; rw [if_neg (by rw [hmay]; simp)]
    rw [hmay] at HM
    rw [htx] at HX
    clear hmay htx
    rw [hi] at HN
    clear hi HGd
    go_wp2_with (first
      | (go_at_call 23; (with_reducible refine (HQ _).mono ?_); rintro e w3 ⟨rfl, b3⟩; have hb3 := b2.trans (b3.mono b2.size); have a0 := Q0.out _ hb3; have a1 := Q1.out _ hb3; have a2 := Q2.out _ hb3; have a3 := Q3.out _ hb3)
      | (go_at_call 22; (with_reducible refine (HC _).mono ?_); rintro e w' ⟨rfl, rfl⟩)
      | (go_at_call 24; (with_reducible refine (HN _).mono ?_); rintro e w' ⟨rfl, rfl⟩)
      | (go_at_call 16; (with_reducible refine (HM.out _ hb3).mono ?_); rintro e w4 ⟨rfl, b4⟩; have hb4 := hb3.trans (b4.mono hb3.size); have c0 := Q0.out _ hb4; have c1 := Q1.out _ hb4; have c2 := Q2.out _ hb4; have c3 := Q3.out _ hb4)
      | (go_at_call 18; (with_reducible refine (HX.out _ hb4).mono ?_); rintro e w5 ⟨T5, rfl, hT5, b5⟩; have t5 := text_is hT5; have hb5 := hb4.trans (b5.mono hb4.size)))
    go_ret
    exact ⟨ret_bool (by simp [t5]), hbw.trans ((hb7.trans (hb5.mono hb7.size)).mono hbw.size)⟩
  have d2 : decide (n < 0) = false := decide_eq_false hlo
  by_cases hhi : 50000 < n
  case pos =>
    have d3 : decide (n > 50000) = true := decide_eq_true hhi
    have hmay : maySo (symsS (bytesOf [c]) nm n) = false := by rw [syms_may c n nm hc.1 hc.2]; rw [hq, hi, decide_eq_false (by omega)]; rfl
    have htx : soT (symsS (bytesOf [c]) nm n) = [] := by unfold soT; rw [if_neg (by rw [hmay]; simp)]
    rw [hmay] at HM
    rw [htx] at HX
    clear hmay htx
    rw [hi] at HN
    clear hi HGd
    go_wp2_with (first
      | (go_at_call 23; (with_reducible refine (HQ _).mono ?_); rintro e w3 ⟨rfl, b3⟩; have hb3 := b2.trans (b3.mono b2.size); have a0 := Q0.out _ hb3; have a1 := Q1.out _ hb3; have a2 := Q2.out _ hb3; have a3 := Q3.out _ hb3)
      | (go_at_call 22; (with_reducible refine (HC _).mono ?_); rintro e w' ⟨rfl, rfl⟩)
      | (go_at_call 24; (with_reducible refine (HN _).mono ?_); rintro e w' ⟨rfl, rfl⟩)
      | (go_at_call 16; (with_reducible refine (HM.out _ hb3).mono ?_); rintro e w4 ⟨rfl, b4⟩; have hb4 := hb3.trans (b4.mono hb3.size); have c0 := Q0.out _ hb4; have c1 := Q1.out _ hb4; have c2 := Q2.out _ hb4; have c3 := Q3.out _ hb4)
      | (go_at_call 18; (with_reducible refine (HX.out _ hb4).mono ?_); rintro e w5 ⟨T5, rfl, hT5, b5⟩; have t5 := text_is hT5; have hb5 := hb4.trans (b5.mono hb4.size)))
    go_ret
    exact ⟨ret_bool (by simp [t5]), hbw.trans ((hb7.trans (hb5.mono hb7.size)).mono hbw.size)⟩
  have d3 : decide (n > 50000) = false := decide_eq_false (by omega)
  clear HM
  by_cases hz : n = 0
  case pos =>
    have htx := HGd.out ⟨#[]⟩ hi (.inl hz) (by rw [if_pos hz])
    rw [htx] at HX
    rw [hi] at HN
    subst hz
    clear hi HGd htx
    go_wp2_with (first
      | (go_at_call 23; (with_reducible refine (HQ _).mono ?_); rintro e w3 ⟨rfl, b3⟩; have hb3 := b2.trans (b3.mono b2.size); have a0 := Q0.out _ hb3; have a1 := Q1.out _ hb3; have a2 := Q2.out _ hb3; have a3 := Q3.out _ hb3)
      | (go_at_call 22; (with_reducible refine (HC _).mono ?_); rintro e w' ⟨rfl, rfl⟩)
      | (go_at_call 24; (with_reducible refine (HN _).mono ?_); rintro e w' ⟨rfl, rfl⟩)
      | (go_at_call 18; (with_reducible refine (HX.out _ hb3).mono ?_); rintro e w5 ⟨T5, rfl, hT5, b5⟩; have hT6 := ba_of hT5; subst hT6; have hb5 := (hb3).trans (b5.mono (hb3).size)))
    go_ret
    exact ⟨ret_bool (by unfold symsT; simp), hbw.trans ((hb7.trans (hb5.mono hb7.size)).mono hbw.size)⟩
  obtain ⟨k, rfl⟩ := Int.eq_ofNat_of_zero_le (show 0 ≤ n by omega)
  have htx := HGd.out (⟨#[32]⟩ ++ numT (k : Int)) hi (by omega) (by rw [if_neg hz, ba_data]; rfl)
  have HG := fun W => digitsOf_any k W (by omega)
  have hnk := numT_few k (by omega)
  have d4 : decide ((k : Int) > 0) = true := decide_eq_true (by omega)
  rw [htx] at HX
  rw [hi] at HN
  generalize numT (k : Int) = nk at HX HG hnk
  clear hi HGd htx
  have hD2 : ((⟨#[32]⟩ : ByteArray) ++ nk).size ≤ 11 := by rw [ByteArray.size_append]; show 1 + nk.size ≤ 11; omega
  all_goals
    go_wp2_with (first
      | (go_at_call 23; (with_reducible refine (HQ _).mono ?_); rintro e w3 ⟨rfl, b3⟩; have hb3 := b2.trans (b3.mono b2.size); have a0 := Q0.out _ hb3; have a1 := Q1.out _ hb3; have a2 := Q2.out _ hb3; have a3 := Q3.out _ hb3)
      | (go_at_call 22; (with_reducible refine (HC _).mono ?_); rintro e w' ⟨rfl, rfl⟩)
      | (go_at_call 24; (with_reducible refine (HN _).mono ?_); rintro e w' ⟨rfl, rfl⟩)
      | (go_at_call 10; (with_reducible refine (HG _).mono ?_); rintro e w4 ⟨rfl, b4⟩; have hb4 := hb3.trans (b4.mono hb3.size); have c0 := Q0.out _ hb4; have c1 := Q1.out _ hb4; have c2 := Q2.out _ hb4; have c3 := Q3.out _ hb4)
      | (go_at_call 18; (with_reducible refine (HX.out _ hb4).mono ?_); rintro e w5 ⟨T5, rfl, hT5, b5⟩; have hT6 := ba_of hT5; subst hT6; have hb5 := (hb4).trans (b5.mono (hb4).size)))
    go_ret
    exact ⟨ret_bool (by unfold symsT; simp), hbw.trans ((hb7.trans (hb5.mono hb7.size)).mono hbw.size)⟩
end Go.Proofs.YtnoppoifepbchaaDoor
