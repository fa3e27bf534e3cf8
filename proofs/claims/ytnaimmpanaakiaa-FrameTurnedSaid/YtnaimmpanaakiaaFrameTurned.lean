/- A frame of whose payload, or of whose checksum, bits within 32 side by side are turned is refused; of one of whose length one bit is turned no frame of as many bytes is told. Conditions: none. -/
import Derived.Test.YtnaimmpanaakiaaRows
import Derived.Test.YtnaimmpanaakiaaFrameKnown1
import Derived.WalkKit
import Derived.WalkLawsBesides
import Derived.ProofKit
import Derived.OpenShut
import Derived.ShutString
import Derived.ChangeOld
import Derived.Below
import Derived.SizedLaws
namespace Go.Proofs.Ytnaimmpanaakiaa.frameTurned
open Go.ChangeShapes Go.WideShapes Go.ChangeAt Go.RowKit
open Go.ChangeMaps (open_string shut_string)
set_option linter.unusedVariables false

theorem own : ownKnob Try.prog.godebug = none := by kernel_rfl
theorem laidOut : laidOutB Try.prog = true := by kernel_rfl
theorem bytesOf : Try.prog.bytesOf 5 = 1 := by kernel_rfl

theorem flip_val (c j : Nat) (hc : c < 256) (hj : j < 8) : bits .xor .u8 (c : Int) ((2 : Int) ^ j % 256) = ((c ^^^ 2 ^ j : Nat) : Int) := by
  have h2 : 2 ^ j < 2 ^ 8 := Nat.pow_lt_pow_right (by decide) hj
  have e : ((2 : Int) ^ j % 256) = ((2 ^ j : Nat) : Int) := by
    rw [Int.emod_eq_of_lt (Int.le_of_lt (Int.pow_pos (by decide)))]
    · simp
    · have : ((2 ^ j : Nat) : Int) < 256 := by omega
      simpa using this
  rw [e]
  exact u8_xor_nat c (2 ^ j) hc (by omega)
set_option maxRecDepth 100000 in
set_option maxHeartbeats 3200000 in
theorem walk (a0 : Option Addr) (cap0 : Nat) (l0 : List Nat) (a1 : Int) (a2 : Nat) (w : World)
    (k0 : IsBytes w w.heap.size a0 l0) (n0 : l0.length ≤ cap0) (r0 : cap0 ≤ 140737488351232) (z0 : a0 = none → cap0 = 0)
    (b1 : -9223372036854775808 ≤ a1 ∧ a1 ≤ 9223372036854775807) (b2 : a2 < 4294967296) :
    Calls Try.prog 7 #[.slice a0 l0.length cap0, .int .i64 a1, .int .u32 a2] w fun e w' => e = .returned (.bool true) ∧ Below w.heap.size w w' := by
  clear b1
  by_cases h0 : 65536 < l0.length
  · go_enter Try.func7, Try.ntmps7
    go_wp2_with fail
    refine (Frame.put_long _ _ _ h0 _).mono ?_
    rintro e w1 ⟨rfl, rfl⟩
    go_wp2_with fail
    refine (Frame.known_any _).mono ?_
    rintro e w1 ⟨rfl, hbel⟩
    go_wp2_with fail
    go_ret
    exact ⟨rfl, hbel⟩
  · obtain ⟨n, hn⟩ : ∃ n, l0.length = n := ⟨_, rfl⟩
    rw [hn] at h0 n0 ⊢
    have HN := hid hn
    have HL : Hid ((Fr.frame l0).length = 8 + n) := by show _ = _; rw [Fr.frame_length, HN.out]
    clear hn
    go_enter Try.func7, Try.ntmps7
    go_wp2_with fail
    refine (Frame.put_any _ _ _ _ n HN.out (by omega) _ k0 (Nat.le_refl _) z0).mono ?_
    rintro e w1 ⟨A1, c1, rfl, ho1, hb1⟩
    have hs1 := hb1.size
    have hc1 := ho1.cap
    rw [HL.out] at hc1
    go_wp2_with fail
    refine (pick_lt a1 (8 * (8 + (n : Int))) (by omega) (by omega) _).mono ?_
    rintro e w2 ⟨⟨p, rfl, hp⟩, rfl⟩
    by_cases h32 : p < 32
    · have hq : p / 8 < (Fr.frame l0).length := by rw [HL.out]; omega
      obtain ⟨g, rfl, hg1, _, hcg, hfg⟩ := ho1.at_ hq
      have hj : p % 8 < 8 := Nat.mod_lt _ (by decide)
      have hx8 := ho1.small _ (List.getElem_mem hq)
      have hs := ho1.set_ (p / 8) ((Fr.frame l0)[p / 8] ^^^ 2 ^ (p % 8)) (Crc.byte_flip_lt _ _ hx8 hj)
      have hbs : Below w.heap.size w (w1.setCell ⟨g, p / 8, none⟩ (.int .u8 ((Fr.frame l0)[p / 8] ^^^ 2 ^ (p % 8) : Nat))) := hb1.setCell hg1 _
      have HSB := hid hbs
      obtain ⟨Q, m, e, hG, hT⟩ := Fr.turned_one l0 (p / 8) (p % 8) (by omega) hj hq
      have HT : Hid ((e ≠ 0 ∧ m = 0 ∧ Q = []) ∨ (e = 0 ∧ m < 8 + n)) := by have e9 := HN.out; rw [e9] at hT; exact hid hT
      have HX := hid (flip_val _ (p % 8) hx8 hj)
      have HLL : Hid (((Fr.frame l0).set (p / 8) ((Fr.frame l0)[p / 8] ^^^ 2 ^ (p % 8))).length = 8 + n) := by show _ = _; rw [List.length_set, HL.out]
      have HG := hid hG
      have HS := hid hs
      obtain ⟨x, hx⟩ : ∃ x, x = (Fr.frame l0)[p / 8] := ⟨_, rfl⟩
      rw [← hx] at hcg HX HG HS HLL HSB
      clear hq hj hx8 hs hG hT ho1 hb1 hbs hx
      go_wp2_with fail
      rw [HX.out]
      have hb2 := HSB.out
      have hr2 := HS.out.reads
      obtain ⟨w2, hw2⟩ : ∃ w2, w2 = w1.setCell ⟨g, p / 8, none⟩ (.int .u8 (x ^^^ 2 ^ (p % 8) : Nat)) := ⟨_, rfl⟩
      rw [← hw2] at hb2 hr2
      rw [← hw2]
      clear hw2 hcg hfg
      obtain ⟨kQ, hkQ⟩ : ∃ kQ, Q.length = kQ := ⟨_, rfl⟩
      have HKQ := hid hkQ
      clear hkQ
      refine (Frame.get_N w2.heap.size (some ⟨g, 0, none⟩) c1 _ (8 + n) HLL.out (by omega) hc1 _ hr2 (Nat.le_refl _) (fun h => by cases h) Q m e HG.out kQ HKQ.out m e rfl rfl).mono ?_
      rintro e' w3 ⟨A3, c3, rfl, _, hb3⟩
      have hb3' := hb2.trans (hb3.mono hb2.size)
      clear hb3 hb2 hr2 HS HSB
      rcases HT.out with ⟨h1, h2, h3⟩ | ⟨h1, h2⟩
      · subst h2
        subst h3
        obtain rfl : kQ = 0 := by have := HKQ.out; simpa using this.symm
        have h1' : ((e : Int) != 0) = true := by rw [bne_iff_ne]; omega
        have h1'' : ((e : Int) == 0) = false := by rw [beq_eq_false_iff_ne]; omega
        clear h1 HT
        go_wp2_with fail
        refine (Frame.known_any _).mono ?_
        rintro e w6 ⟨rfl, hbel⟩
        go_wp2_with fail
        go_ret
        exact ⟨rfl, hb3'.trans (hbel.mono hb3'.size)⟩
      · subst h1
        have h2' : (m : Int) < 8 + (n : Int) := by omega
        clear HT
        go_wp2_with fail
        refine (Frame.known_any _).mono ?_
        rintro e w6 ⟨rfl, hbel⟩
        go_wp2_with fail
        go_ret
        exact ⟨rfl, hb3'.trans (hbel.mono hb3'.size)⟩
    · by_cases h64 : 64 ≤ p
      · obtain ⟨q, hq⟩ : ∃ q, p = 64 + q := ⟨p - 64, by omega⟩
        obtain ⟨X, m0, Y, hX, hm0, hfr, hend⟩ := Fr.ends_payload l0 q (by have := HN.out; omega) k0.small (by have := HN.out; omega)
        have HM0 : Hid (m0.length = n) := by show _ = _; rw [hm0, HN.out]
        have hm0s : ∀ x ∈ m0, x < 256 := fun x hx => ho1.small x (by rw [← hfr]; simp [hx])
        have HLEN : Hid (∀ m : List Nat, m.length = m0.length → (X ++ (m ++ Y)).length = 8 + n) := by
          show ∀ _, _
          intro m hm
          have e := HL.out
          rw [← hfr] at e
          simp only [List.length_append] at e ⊢
          omega
        rw [← hfr] at ho1
        obtain ⟨g, rfl, _⟩ := ho1.at_ (k := 0) (by rw [HLEN.out m0 rfl]; omega)
        have HXL := hid hX
        have HEND := hid hend
        have HFR := hid hfr
        have HQ := hid hq
        clear hX hend hfr hq hm0
        go_wp2_with fail
        go_loopw [14, 15] (fun cn ii wr => ∃ i cnt E : Nat, ∃ m : List Nat, i ≤ 32 ∧ ii = .int .i64 i ∧ cn = .int .i64 cnt ∧ cnt ≤ i ∧ E < 2 ^ i ∧ m.length = m0.length ∧ OwnsB 5 wr w.heap.size (some ⟨g, 0, none⟩) c1 (X ++ (m ++ Y)) ∧ Below w.heap.size w wr ∧
          Hid ((cnt = 0 ↔ E = 0) ∧ Crc.num m = Crc.num m0 ^^^ 2 ^ q * E)) (fun _ ii _ => 32 - (intOf ii).toNat)
        case atStart => exact ⟨0, 0, 0, m0, by omega, rfl, rfl, by omega, by omega, rfl, ho1, hb1, hid ⟨Iff.rfl, by simp⟩⟩
        case round =>
          clear ho1 hb1 hm0s
          rename (64 : Int) ≤ (p : Int) => hz64
          clear hz64 h64
          obtain ⟨i, cnt, E, m, hi, rfl, rfl, hcn, hE, hL, hown, hbel, hs⟩ := hrel
          have HLM := hid hL
          have HE := hid hE
          clear hL hE
          by_cases hlt : i < 32
          · by_cases ho : (((a2 : Int) / 2 ^ i).tmod 2 == 1) = true
            · by_cases hin : ((p : Int) + i) / 8 < (8 + n : Int)
              · have hge : (8 : Int) ≤ ((p : Int) + i) / 8 := by have := HQ.out; omega
                have hjm : (q + i) / 8 < m.length := by have := HLM.out; have := HM0.out; have := HQ.out; omega
                have hk : (p + i) / 8 = X.length + (q + i) / 8 := by have := HXL.out; have := HQ.out; omega
                have hb : (q + i) % 8 = (p + i) % 8 := by have := HQ.out; omega
                have hqq : (p + i) / 8 < (X ++ (m ++ Y)).length := by rw [HLEN.out m HLM.out]; omega
                obtain ⟨g', hg', hg1, _, hcg, hfg⟩ := hown.at_ hqq
                obtain rfl : g = g' := by injection hg' with hg'; injection hg'
                have hj : (p + i) % 8 < 8 := Nat.mod_lt _ (by decide)
                have hx8 := hown.small _ (List.getElem_mem hqq)
                have HN2 := hid (Crc.flip m0 m q i E hjm HE.out hs.out.2)
                rw [Fr.get_mid X m Y _ _ hjm hk hqq] at hcg hx8
                rw [hb] at HN2
                have hs1 := hown.set_ ((p + i) / 8) (m[(q + i) / 8] ^^^ 2 ^ ((p + i) % 8)) (Crc.byte_flip_lt _ _ hx8 hj)
                have eset : (X ++ (m ++ Y)).set ((p + i) / 8) (m[(q + i) / 8] ^^^ 2 ^ ((p + i) % 8)) = X ++ (m.set ((q + i) / 8) (m[(q + i) / 8] ^^^ 2 ^ ((p + i) % 8)) ++ Y) := by
                  rw [hk]; exact Fr.set_mid X m Y _ _ hjm
                rw [eset] at hs1
                obtain ⟨x, hx⟩ : ∃ x, x = m[(q + i) / 8] := ⟨_, rfl⟩
                rw [← hx] at hcg HN2 hs1 hx8
                have HX := hid (flip_val x _ hx8 hj)
                have hb1 : Below w.heap.size w (wr.setCell ⟨g, (p + i) / 8, none⟩ (.int .u8 (x ^^^ 2 ^ ((p + i) % 8) : Nat))) := hbel.setCell hg1 _
                have HS := hid (And.intro hs1 hb1)
                clear hk hb hqq hg' hj hx8 hs1 eset hx hb1 hown hbel
                go_wp2
                rw [HX.out]
                go_roundw
                case rel => exact ⟨i + 1, cnt + 1, E + 2 ^ i, m.set ((q + i) / 8) (x ^^^ 2 ^ ((p + i) % 8)), by omega, by go_num, by go_num, by omega, by have := HE.out; rw [Nat.pow_succ]; omega,
                  by rw [List.length_set]; exact HLM.out, HS.out.1, HS.out.2, hid ⟨⟨fun h => by omega, fun h => by have := Nat.pow_pos (n := i) (show 0 < 2 by decide); omega⟩, HN2.out⟩⟩
                case measure => simp [intOf] <;> omega
              · have hge : (8 : Int) ≤ ((p : Int) + i) / 8 := by have := HQ.out; omega
                go_wp2
                go_roundw
                case rel => exact ⟨i + 1, cnt, E, m, by omega, by go_num, rfl, by omega, by have := HE.out; rw [Nat.pow_succ]; omega, HLM.out, hown, hbel, hs⟩
                case measure => simp [intOf] <;> omega
            · have ho' : (((a2 : Int) / 2 ^ i).tmod 2 == 1) = false := by simpa using ho
              clear ho
              go_wp2
              go_roundw
              case rel => exact ⟨i + 1, cnt, E, m, by omega, by go_num, rfl, by omega, by have := HE.out; rw [Nat.pow_succ]; omega, HLM.out, hown, hbel, hs⟩
              case measure => simp [intOf] <;> omega
          · obtain rfl : i = 32 := by omega
            have hE32 : E < 4294967296 := HE.out
            have hD := HEND.out m E HLM.out (fun x hx => hown.small x (by simp [hx])) hE32 hs.out.2
            have HLL := hid (HLEN.out m HLM.out)
            have hr := hown.reads
            by_cases h : E = 0
            · have e1 := hD.1 h
              have HG : Hid (Fr.get (X ++ (m ++ Y)) = (l0, 8 + n, 0)) := by
                show _ = _
                have e2 := Fr.back l0 [] k0.small (by have := HN.out; omega)
                rw [List.append_nil, HN.out] at e2
                rw [e1, e2]
              have e2 : ((cnt : Int) == 0) = true := by rw [beq_iff_eq]; have := hs.out.1.2 h; omega
              clear h e1 hD hown hE32
              go_wp2_with fail
              refine (Frame.get_N wr.heap.size (some ⟨g, 0, none⟩) c1 _ (8 + n) HLL.out (by omega) hc1 _ hr (Nat.le_refl _) (fun h => by cases h) l0 (8 + n) 0 HG.out n HN.out (8 + (n : Int)) 0 (by omega) rfl).mono ?_
              rintro e w4 ⟨A4, c4, rfl, ho4, hb4⟩
              have hb4' := hbel.trans (hb4.mono hbel.size)
              have hk0 := k0.below hb4'
              clear hb4 hbel hr
              go_wp2_with fail
              refine (same_T _ _ A4 a0 c4 cap0 l0 n HN.out (by unfold maxLen; omega) _ ho4.reads hk0).mono ?_
              rintro e w5 ⟨rfl, n5, rfl⟩
              have hb5 := below_drewN hb4' n5
              clear hb4' ho4 hk0
              go_wp2_with fail
              refine (Frame.known_any _).mono ?_
              rintro e w6 ⟨rfl, hbel⟩
              go_wp2_with fail
              go_ret
              exact ⟨rfl, hb5.trans (hbel.mono hb5.size)⟩
            · have HG := hid (hD.2 h)
              have e2 : ((cnt : Int) == 0) = false := by
                rw [beq_eq_false_iff_ne]
                intro he
                exact h (hs.out.1.1 (by omega))
              clear h hD hown hE32
              go_wp2_with fail
              refine (Frame.get_N wr.heap.size (some ⟨g, 0, none⟩) c1 _ (8 + n) HLL.out (by omega) hc1 _ hr (Nat.le_refl _) (fun h => by cases h) [] 0 5 HG.out 0 rfl 0 5 rfl rfl).mono ?_
              rintro e w4 ⟨A4, c4, rfl, _, hb4⟩
              have hb4' := hbel.trans (hb4.mono hbel.size)
              clear hb4 hbel hr
              go_wp2_with fail
              refine (Frame.known_any _).mono ?_
              rintro e w6 ⟨rfl, hbel⟩
              go_wp2_with fail
              go_ret
              exact ⟨rfl, hb4'.trans (hbel.mono hb4'.size)⟩
      · obtain ⟨q, hq⟩ : ∃ q, p = 32 + q := ⟨p - 32, by omega⟩
        obtain ⟨X, m0, Y, hX, hm0, hfr, hend⟩ := Fr.ends_sum l0 q (by have := HN.out; omega)
        have HM0 := hid hm0
        have hm0s : ∀ x ∈ m0, x < 256 := fun x hx => ho1.small x (by rw [← hfr]; simp [hx])
        have HLEN : Hid (∀ m : List Nat, m.length = m0.length → (X ++ (m ++ Y)).length = 8 + n) := by
          show ∀ _, _
          intro m hm
          have e := HL.out
          rw [← hfr] at e
          simp only [List.length_append] at e ⊢
          omega
        rw [← hfr] at ho1
        obtain ⟨g, rfl, _⟩ := ho1.at_ (k := 0) (by rw [HLEN.out m0 rfl]; omega)
        have HXL := hid hX
        have HEND := hid hend
        have HFR := hid hfr
        have HQ := hid hq
        clear hX hend hfr hq hm0
        go_wp2_with fail
        go_loopw [14, 15] (fun cn ii wr => ∃ i cnt E : Nat, ∃ m : List Nat, i ≤ 32 ∧ ii = .int .i64 i ∧ cn = .int .i64 cnt ∧ cnt ≤ i ∧ E < 2 ^ i ∧ m.length = m0.length ∧ OwnsB 5 wr w.heap.size (some ⟨g, 0, none⟩) c1 (X ++ (m ++ Y)) ∧ Below w.heap.size w wr ∧
          Hid ((cnt = 0 ↔ E = 0) ∧ Crc.num m = Crc.num m0 ^^^ 2 ^ q * E)) (fun _ ii _ => 32 - (intOf ii).toNat)
        case atStart => exact ⟨0, 0, 0, m0, by omega, rfl, rfl, by omega, by omega, rfl, ho1, hb1, hid ⟨Iff.rfl, by simp⟩⟩
        case round =>
          clear ho1 hb1 hm0s
          obtain ⟨i, cnt, E, m, hi, rfl, rfl, hcn, hE, hL, hown, hbel, hs⟩ := hrel
          have HLM := hid hL
          have HE := hid hE
          clear hL hE
          by_cases hlt : i < 32
          · by_cases ho : (((a2 : Int) / 2 ^ i).tmod 2 == 1) = true
            · by_cases hin : ((p : Int) + i) / 8 < (8 : Int)
              · have hge : (4 : Int) ≤ ((p : Int) + i) / 8 := by have := HQ.out; omega
                have hjm : (q + i) / 8 < m.length := by have := HLM.out; have := HM0.out; have := HQ.out; omega
                have hk : (p + i) / 8 = X.length + (q + i) / 8 := by have := HXL.out; have := HQ.out; omega
                have hb : (q + i) % 8 = (p + i) % 8 := by have := HQ.out; omega
                have hqq : (p + i) / 8 < (X ++ (m ++ Y)).length := by rw [HLEN.out m HLM.out]; omega
                obtain ⟨g', hg', hg1, _, hcg, hfg⟩ := hown.at_ hqq
                obtain rfl : g = g' := by injection hg' with hg'; injection hg'
                have hj : (p + i) % 8 < 8 := Nat.mod_lt _ (by decide)
                have hx8 := hown.small _ (List.getElem_mem hqq)
                have HN2 := hid (Crc.flip m0 m q i E hjm HE.out hs.out.2)
                rw [Fr.get_mid X m Y _ _ hjm hk hqq] at hcg hx8
                rw [hb] at HN2
                have hs1 := hown.set_ ((p + i) / 8) (m[(q + i) / 8] ^^^ 2 ^ ((p + i) % 8)) (Crc.byte_flip_lt _ _ hx8 hj)
                have eset : (X ++ (m ++ Y)).set ((p + i) / 8) (m[(q + i) / 8] ^^^ 2 ^ ((p + i) % 8)) = X ++ (m.set ((q + i) / 8) (m[(q + i) / 8] ^^^ 2 ^ ((p + i) % 8)) ++ Y) := by
                  rw [hk]; exact Fr.set_mid X m Y _ _ hjm
                rw [eset] at hs1
                obtain ⟨x, hx⟩ : ∃ x, x = m[(q + i) / 8] := ⟨_, rfl⟩
                rw [← hx] at hcg HN2 hs1 hx8
                have HX := hid (flip_val x _ hx8 hj)
                have hb1 : Below w.heap.size w (wr.setCell ⟨g, (p + i) / 8, none⟩ (.int .u8 (x ^^^ 2 ^ ((p + i) % 8) : Nat))) := hbel.setCell hg1 _
                have HS := hid (And.intro hs1 hb1)
                clear hk hb hqq hg' hj hx8 hs1 eset hx hb1 hown hbel
                go_wp2
                rw [HX.out]
                go_roundw
                case rel => exact ⟨i + 1, cnt + 1, E + 2 ^ i, m.set ((q + i) / 8) (x ^^^ 2 ^ ((p + i) % 8)), by omega, by go_num, by go_num, by omega, by have := HE.out; rw [Nat.pow_succ]; omega,
                  by rw [List.length_set]; exact HLM.out, HS.out.1, HS.out.2, hid ⟨⟨fun h => by omega, fun h => by have := Nat.pow_pos (n := i) (show 0 < 2 by decide); omega⟩, HN2.out⟩⟩
                case measure => simp [intOf] <;> omega
              · have hge : (4 : Int) ≤ ((p : Int) + i) / 8 := by have := HQ.out; omega
                go_wp2
                go_roundw
                case rel => exact ⟨i + 1, cnt, E, m, by omega, by go_num, rfl, by omega, by have := HE.out; rw [Nat.pow_succ]; omega, HLM.out, hown, hbel, hs⟩
                case measure => simp [intOf] <;> omega
            · have ho' : (((a2 : Int) / 2 ^ i).tmod 2 == 1) = false := by simpa using ho
              clear ho
              go_wp2
              go_roundw
              case rel => exact ⟨i + 1, cnt, E, m, by omega, by go_num, rfl, by omega, by have := HE.out; rw [Nat.pow_succ]; omega, HLM.out, hown, hbel, hs⟩
              case measure => simp [intOf] <;> omega
          · obtain rfl : i = 32 := by omega
            have hE32 : E < 4294967296 := HE.out
            have hD := HEND.out m E HLM.out (fun x hx => hown.small x (by simp [hx])) hE32 hs.out.2
            have HLL := hid (HLEN.out m HLM.out)
            have hr := hown.reads
            by_cases h : E = 0
            · have e1 := hD.1 h
              have HG : Hid (Fr.get (X ++ (m ++ Y)) = (l0, 8 + n, 0)) := by
                show _ = _
                have e2 := Fr.back l0 [] k0.small (by have := HN.out; omega)
                rw [List.append_nil, HN.out] at e2
                rw [e1, e2]
              have e2 : ((cnt : Int) == 0) = true := by rw [beq_iff_eq]; have := hs.out.1.2 h; omega
              clear h e1 hD hown hE32
              go_wp2_with fail
              refine (Frame.get_N wr.heap.size (some ⟨g, 0, none⟩) c1 _ (8 + n) HLL.out (by omega) hc1 _ hr (Nat.le_refl _) (fun h => by cases h) l0 (8 + n) 0 HG.out n HN.out (8 + (n : Int)) 0 (by omega) rfl).mono ?_
              rintro e w4 ⟨A4, c4, rfl, ho4, hb4⟩
              have hb4' := hbel.trans (hb4.mono hbel.size)
              have hk0 := k0.below hb4'
              clear hb4 hbel hr
              go_wp2_with fail
              refine (same_T _ _ A4 a0 c4 cap0 l0 n HN.out (by unfold maxLen; omega) _ ho4.reads hk0).mono ?_
              rintro e w5 ⟨rfl, n5, rfl⟩
              have hb5 := below_drewN hb4' n5
              clear hb4' ho4 hk0
              go_wp2_with fail
              refine (Frame.known_any _).mono ?_
              rintro e w6 ⟨rfl, hbel⟩
              go_wp2_with fail
              go_ret
              exact ⟨rfl, hb5.trans (hbel.mono hb5.size)⟩
            · have HG := hid (hD.2 h)
              have e2 : ((cnt : Int) == 0) = false := by
                rw [beq_eq_false_iff_ne]
                intro he
                exact h (hs.out.1.1 (by omega))
              clear h hD hown hE32
              go_wp2_with fail
              refine (Frame.get_N wr.heap.size (some ⟨g, 0, none⟩) c1 _ (8 + n) HLL.out (by omega) hc1 _ hr (Nat.le_refl _) (fun h => by cases h) [] 0 5 HG.out 0 rfl 0 5 rfl rfl).mono ?_
              rintro e w4 ⟨A4, c4, rfl, _, hb4⟩
              have hb4' := hbel.trans (hb4.mono hbel.size)
              clear hb4 hbel hr
              go_wp2_with fail
              refine (Frame.known_any _).mono ?_
              rintro e w6 ⟨rfl, hbel⟩
              go_wp2_with fail
              go_ret
              exact ⟨rfl, hb4'.trans (hbel.mono hb4'.size)⟩

set_option maxRecDepth 100000 in
theorem lifted (os : Os) (started : os.Started) (H : Type) (enc : TypeId × Value → H) :
    ReturnsInHanded {} Try.checked os 7 .any (Rows.frameTurnedSpec.pre6 enc Try.prog Try.f7 Rows.frameTurnedRow.domain false) (Rows.frameTurnedSpec.post enc Try.prog Try.f7 false true false false) := by
  refine returnsInHanded_of_change_sized (C := Try.checked) own started (by kernel_rfl) Try.func7
    (ChangeSpec.witness6 (enc := enc) (C := Try.checked) false ⟨#[], #[.slice none 0 0, .int .i64 0, .int .u32 0], []⟩ 8 (by kernel_rfl) (by kernel_rfl) (by kernel_rfl) (by kernel_rfl)) ?_
  intro W base args ds gs before hval0 hW hcnd hsz0 _
  have hsz : (DataW.weightsEach Try.prog (Try.f7.params.toList ++ Rows.frameTurnedSpec.plain.varTypes Try.prog) (ds ++ gs)).all (· ≤ reachBytes) = true := hsz0
  clear hsz0
  have hval : ∀ (j : Nat) t v, Try.f7.params[j]? = some t → args[j]? = some v → Value.okWide Try.prog W .any base t v := hval0
  have hW' := hW
  obtain ⟨p, q, hA0, hV, rfl, hfz, hnd⟩ := hW
  have hA : DataW.TrodAll enc Try.prog W 0 (fun _ => true) true Try.f7.params.toList args.toList ds p := hA0
  rw [Try.params7] at hA hval hsz
  obtain ⟨v0, vs0, d0, ds0, p0, q0, hargs, rfl, rfl, g0, t0⟩ := trodAll_cons hA
  obtain ⟨v1, vs1, d1, ds1, p1, q1, rfl, rfl, rfl, g1, t1⟩ := trodAll_cons t0
  obtain ⟨v2, vs2, d2, ds2, p2, q2, rfl, rfl, rfl, g2, t2⟩ := trodAll_cons t1
  obtain ⟨rfl, rfl, rfl⟩ := trodAll_nil t2
  obtain rfl : args = #[v0, v1, v2] := by cases args; simp_all
  obtain ⟨rfl, rfl⟩ := trodVars_none hV
  obtain ⟨a0, len0, cap0, rfl⟩ := okWide_slice Try.underlying22 (hval 0 22 v0 rfl rfl)
  have m0 := g0
  have lt0 : ∀ x ∈ p0, x.block < W.heap.size := by obtain ⟨m, hm⟩ := m0; exact DataW.trod_lt m _ _ _ hm
  obtain ⟨l0, k0, rfl, n0, r0, z0⟩ : ∃ l, IsBytes W W.heap.size a0 l ∧ len0 = l.length ∧ l.length ≤ cap0 ∧ cap0 ≤ 140737488351232 ∧ (a0 = none → cap0 = 0) := by
    obtain ⟨fuel, hf⟩ := g0
    rcases open_ints Try.underlying22 Try.underlying5 (by kernel_rfl) hf with ⟨hcs, _⟩ | ⟨x, l, c, zs, hcs, _, hl, hm, hz, hx, hcell, hwz⟩
    · simp [Value.cells] at hcs
      obtain ⟨rfl, rfl, rfl⟩ := hcs
      exact ⟨[], IsBytes.nil, rfl, by simp, by omega, fun _ => rfl⟩
    · simp [Value.cells] at hcs
      obtain ⟨rfl, rfl, rfl⟩ := hcs
      simp only [Prod.mk.injEq] at hx
      obtain ⟨rfl, rfl⟩ := hx
      simp only [if_true] at hz
      have hr := sized_slice hsz (j := 0) (t := 22) (e := 5) rfl rfl Try.underlying22
      rw [bytesOf] at hr
      simp only [lits, List.length_map, List.length_take, List.length_drop, reachBytes] at hr
      obtain ⟨l, h1, h2⟩ := isBytes_of_ints hl hz hcell hwz
      exact ⟨l, h1, h2, by omega, by omega, fun h => by cases h⟩
  obtain ⟨a1, rfl, rfl, rfl, w1⟩ := open_int Try.underlying3 (hval 1 3 v1 rfl rfl) g1
  have b1 := bounds_i64 w1
  obtain ⟨a2, rfl, rfl, rfl, w2⟩ := open_int Try.underlying35 (hval 2 35 v2 rfl rfl) g2
  have b2 := bounds_u32 w2
  obtain ⟨a2, rfl⟩ := Int.eq_ofNat_of_zero_le b2.1
  clear hA0 hval0
  refine (walk a0 cap0 l0 a1 a2 W k0 n0 r0 z0 b1 (by omega)).mono fun e W' ⟨he, bel⟩ => ?_
  subst he
  exact ⟨_, rfl, _, _, _, [], _, [], hW', trodAll_mk1 (shut_bool Try.underlying4 _), (trodAll_cons_mk (Below.trod laidOut (by kernel_rfl) (of_decide_eq_true (by kernel_rfl)) m0 bel lt0) (trodAll_cons_mk (shut_int Try.underlying3 w1) (trodAll_cons_mk (shut_int Try.underlying35 w2) trodAll_mk0))), rfl, bel.frame _, fun h => by cases h⟩

theorem over : Rows.frameTurnedRow.holds Try.pinned (OpenSpec.ofChange Rows.frameTurnedSpec) :=
  OpenClaim.holds_of_wide 7 Try.f7 rfl rfl rfl rfl rfl rfl rfl ⟨rfl, rfl, rfl, rfl, rfl⟩ rfl rfl rfl rfl rfl (by kernel_rfl) Try.func7 (by kernel_rfl)
    (of_decide_eq_true (by kernel_rfl)) (by unfold Func.isWrapper; first | (rw [if_pos (by decide +kernel)]; kernel_rfl) | (rw [if_neg (by decide +kernel)]; exact ⟨rfl, rfl⟩))
    (fun os started H enc _ => lifted os started H enc)

theorem proved : Rows.FrameTurnedSaid := over
end Go.Proofs.Ytnaimmpanaakiaa.frameTurned
