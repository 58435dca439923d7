/- The walk of the law BitsSigns over the contracts of the program's calls and of the document's answers. -/
import Derived.Test.YtonaefebgpohjaaDoorBack
import Derived.Test.YtonaefebgpohjaaDoorRefDecode
import Derived.Laws.AppendOwnNone
namespace Go.Proofs.YtonaefebgpohjaaDoor
open Go.RowKit Math

theorem ownsRow_below {w w' : World} {B n : Nat} {v : Value} {xs : List Value} (h : w.ownsRow B 5 1 v n xs) (hb : Below w.heap.size w w') : w'.ownsRow B 5 1 v n xs := by
  obtain ⟨h1, h2 | ⟨g, cap, cur, e1, e2, e3, e4⟩⟩ := h
  · exact ⟨h1, .inl h2⟩
  · refine ⟨h1, .inr ⟨g, cap, cur, e1, e2, ?_, e4⟩⟩
    obtain ⟨hlt, _⟩ := Array.getElem?_eq_some_iff.1 e3
    exact (hb.block g hlt).trans e3

theorem own_grown {w wr w1 : World} {v : Value} {n : Nat} {xs : List Value} (hown : wr.ownsRow w.heap.size 5 1 v n xs) (hb : Below w.heap.size w wr) (hgrow : wr.grownBy w1 v.ownBlock) : Below w.heap.size w w1 := by
  refine hb.grown hgrow hb.size (fun r hr => ?_)
  obtain ⟨_, ⟨rfl, _⟩ | ⟨g', cap, cur, rfl, hle, _⟩⟩ := hown
  · cases hr
  · simp [Value.ownBlock] at hr; omega

/-- 'append(v, xs...)', v the call's own, xs bytes that came in, nil or not. -/
theorem wpList_append_bytes {w : World} {ops : Array Oper} {rest : List Oper} {o : Oper} {act : Act} {Q : Exit → Act → World → Prop} (hgd : o.guard = none) (s x : Operand)
    (ho : o.op = .call { callee := .builtin .append, args := #[s, x], argTypes := #[22, 22] }) (base : Nat) (v : Value) (n : Nat) (xs : List Value) (hs : act.eval s = v) (hown : w.ownsRow base 5 1 v n xs)
    (a : Option Addr) (b off len cap : Nat) (f : Nat → Int) (hx : act.eval x = .slice a len cap) (hB : Bs w a b off len f) (hnone : a = none → len = 0 ∧ cap = 0) (hl : n + len ≤ 140737488351232) (hbase : base ≤ w.heap.size)
    (h : ∀ v' w', w'.ownsRow base 5 1 v' (n + len) (xs ++ (raw f len).map (Value.int .u8)) → w.grownBy w' v.ownBlock → wpList Tryd.prog ops Q rest (act.put o.dst v') w') : wpList Tryd.prog ops Q (o :: rest) act w := by
  obtain ⟨i0, hi, hz0, hz1, hz2⟩ := info_parts Tryd.info5
  cases a with
  | none =>
    obtain ⟨rfl, rfl⟩ := hnone rfl
    exact wpList_append_own_none hgd s x 22 ho base 5 i0 1 Tryd.underlying22 hi v n xs hs hown hx (h v w (by simpa [raw] using hown) ⟨rfl, rfl, rfl, Nat.le_refl _, fun _ _ _ => rfl⟩)
  | some ad =>
    refine wpList_append_own_wide w hgd s x 22 ho base 5 i0 (.int .u8 0) 1 1 Tryd.underlying22 hi hz0 hz1 hz2 rfl (by decide) v n xs hs hown ad len cap ((raw f len).map (Value.int .u8)) hx (by simp [raw]) ?_ ?_ (by unfold maxLen; omega) (by omega) hbase (fun v' w' h1 h2 _ => h v' w' h1 h2)
    · intro j u hj
      have hjl : j < len := by
        rcases Nat.lt_or_ge j len with h | h
        · exact h
        · rw [List.getElem?_eq_none (by simpa [raw] using h)] at hj; cases hj
      have e : ad = ⟨b, off, none⟩ := Option.some.inj (hB.at' (by omega))
      subst e
      have hp : (⟨b, off, none⟩ : Addr).add j = ⟨b, off + j, none⟩ := by unfold Addr.add; split <;> simp_all
      rw [hp, hB.cell j hjl]
      simpa [raw, hjl] using hj
    · intro u hu
      rw [List.mem_map] at hu
      obtain ⟨y, _, rfl⟩ := hu
      rfl

set_option maxHeartbeats 1000000 in
theorem law_signs (a : Option Addr) (b off len cap : Nat) (f : Nat → Int) (s S A X : ByteArray) (c : Int) (w : World) (hl : len ≤ 140737488351232) (hB : Bs w a b off len f) (hnone : a = none → len = 0 ∧ cap = 0)
    (HE : ∀ wr g cap', Below w.heap.size w wr → (∀ i, i < len → wr.cell? ⟨g, i, none⟩ = some (.int .u8 (f i))) → Calls Tryd.prog 5 #[.slice (some ⟨g, 0, none⟩) len cap'] wr fun e w' => e = .returned (.string S) ∧ Below wr.heap.size wr w')
    (HRE : ∀ wr, Below w.heap.size w wr → Calls Tryd.prog 8 #[.slice a len cap] wr fun e w' => e = .returned (.string S) ∧ Below wr.heap.size wr w')
    (HD : ∀ wr, Below w.heap.size w wr → Calls Tryd.prog 6 #[.string s] wr fun e w' => ∃ v, e = .returned (.tuple #[v, .int .i64 c]) ∧ Below wr.heap.size wr w' ∧ ∀ w'', Below w'.heap.size w' w'' → (convert 22 9 v).run Tryd.prog w'' = .ok (.string X) w'')
    (HRD : ∀ wr, Below w.heap.size w wr → Calls Tryd.prog 7 #[.string s] wr fun e w' => ∃ v, e = .returned (.tuple #[v, .int .i64 c]) ∧ Below wr.heap.size wr w' ∧ ∀ w'', Below w'.heap.size w' w'' → (convert 22 9 v).run Tryd.prog w'' = .ok (.string X) w'')
    (HC : ∀ wr, Below w.heap.size w wr → (convert 22 9 (.slice a len cap)).run Tryd.prog wr = .ok (.string A) wr) (hA : A = strOfNums (raw f len)) :
    Calls Tryd.prog 3 #[.slice a len cap, .string s] w fun e w' => e = .returned (.bool true) ∧ Below w.heap.size w w' := by
  obtain ⟨i0, hi, hz0, hz1, hz2⟩ := info_parts Tryd.info5
  have HE' : Hid _ := HE
  have HRE' : Hid _ := HRE
  have HD' : Hid _ := HD
  have HRD' : Hid _ := HRD
  have HC' : Hid _ := HC
  have HA : Hid _ := hA
  clear HE HRE HD HRD HC hA
  go_enter Tryd.func3, Tryd.ntmps3
  have hB' : Hid (Bs w a b off len f) := hB
  have HN : Hid (a = none → len = 0 ∧ cap = 0) := hnone
  clear hB hnone
  go_wp2_with (at_builtin; refine wpList_append_bytes rfl (.tmp 11) (.tmp 12) rfl w.heap.size _ 0 [] rfl (World.ownsRow_lit w #[] 0 (Nat.le_refl _) (by decide) rfl) a b off len cap f rfl (hB'.out.below ((Below.refl _ _).alloc (Nat.le_refl _) _)) HN.out (by omega) (by simp) ?_)
  intro v1 w1 own1 grow1
  have hb1 : Below w.heap.size w w1 := own_grown (World.ownsRow_lit w #[] 0 (Nat.le_refl _) (by decide) rfl) ((Below.refl _ _).alloc (Nat.le_refl _) _) grow1
  have hsz1 := hb1.size
  clear grow1
  go_wp2_with (at_builtin; refine wpList_append_own_wide _ rfl (.tmp 13) (.tmp 14) 22 rfl w.heap.size 5 i0 (.int .u8 0) 1 1 Tryd.underlying22 hi hz0 hz1 hz2 rfl (by decide) _ _ _ rfl (own1.alloc _) ⟨w1.heap.size, 0, none⟩ 1 1 [.int .u8 90] rfl rfl ?c1 ?c2 ?c3 ?c4 ?c5 ?_)
  case c1 => exact cell_one_new _ _ _
  case c2 => intro u hu; simp at hu; subst hu; rfl
  case c3 => unfold maxLen; omega
  case c4 => omega
  case c5 => simp; omega
  intro v2 w2 own2 grow2 _
  have hb2 : Below w.heap.size w w2 := own_grown (own1.alloc _) (hb1.alloc hsz1 _) grow2
  clear grow2 own1 hb1 hsz1
  obtain ⟨_, ⟨_, hq0⟩ | ⟨g, capg, cur, hv, hle, hg⟩⟩ := id own2
  · exact absurd hq0 (by omega)
  have hlec : len ≤ capg := by have := hg.2.1; omega
  have hgw : g < w2.heap.size := by
    obtain ⟨hlt, _⟩ := Array.getElem?_eq_some_iff.1 hg.1
    exact hlt
  subst hv
  clear hg
  have hcl : ∀ i, i < len → w2.cell? ⟨g, i, none⟩ = some (.int .u8 (f i)) := fun i hi => by
    rw [own2.cellAt i (by omega)]
    rw [List.getElem?_append_left (by simp [raw]; omega)]
    simp [raw, hi]
  have HIN := HE'.out w2 g capg hb2 hcl
  clear hcl HE'
  go_wp2_with fail
  refine HIN.mono ?_
  rintro e w3 ⟨rfl, hb3⟩
  clear HIN
  have hb3' : Below w.heap.size w w3 := hb2.trans (hb3.mono hb2.size)
  have own3 := ownsRow_below own2 hb3
  clear own2 hb2 hb3 hgw
  go_wp2_with fail
  refine (HD'.out w3 hb3').mono ?_
  rintro e w4 ⟨vx, rfl, hb4, HX⟩
  have HX' : Hid _ := HX
  clear HX HD'
  have hb4' : Below w.heap.size w w4 := hb3'.trans (hb4.mono hb3'.size)
  have own4 := ownsRow_below own3 hb4
  clear own3 hb4 hb3'
  go_wp2_with fail
  refine (HRD'.out w4 hb4').mono ?_
  rintro e w5 ⟨vy, rfl, hb5, HY⟩
  have HY' : Hid _ := HY
  clear HY HRD'
  have hb5' : Below w.heap.size w w5 := hb4'.trans (hb5.mono hb4'.size)
  have own5 := ownsRow_below own4 hb5
  go_wp2_with fail
  refine (HRE'.out w5 hb5').mono ?_
  rintro e w6 ⟨rfl, hb6⟩
  have hb6' : Below w.heap.size w w6 := hb5'.trans (hb6.mono hb5'.size)
  have own6 := ownsRow_below own5 hb6
  have cx := HX'.out w6 (hb5.trans (hb6.mono hb5.size))
  have cy := HY'.out w6 hb6
  have cb := HC'.out w6 hb6'
  rw [show ([Value.int IntKind.u8 90] : List Value) = [90].map (Value.int .u8) from rfl, ← List.map_append] at own6
  have ci := conv_own w6 _ _ _ _ own6
  have hAe := HA.out
  have hin : ((strOfNums (raw f len ++ [90])).toList == (A ++ { data := #[90] }).toList) = true := by
    rw [hAe, beq_iff_eq, strOfNums_toList, ByteArray.toList_eq]
    simp [strOfNums]
  have hAs : A.size ≤ 140737488351232 := by rw [hAe, strOfNums_size]; simpa [raw] using hl
  clear HX' HY' HC' HRE' own4 own5 own6 hb4' hb5 hb5' hb6 hAe HA hB' HN
  have hsum : A.size + 1 ≤ 9223372036854775807 := by omega
  generalize strOfNums (raw f len ++ [90]) = IN at ci hin
  go_wp2_with (go_at_call 9; refine (names_any _).mono ?_; rintro e w7 ⟨rfl, hw7⟩; subst hw7)
  go_ret
  exact ⟨rfl, hb6'⟩

theorem conv_nil (w : World) : (convert 22 9 (.slice none 0 0)).run Tryd.prog w = .ok (.string ByteArray.empty) w :=
  run_convert_bytes_nil (P := Tryd.prog) w 22 5 Tryd.underlying22 Tryd.underlying5 0 0 9 Tryd.underlying9

theorem conv_row (w : World) (B n : Nat) (f : Nat → Int) (h : w.rowIs B 5 n (fun j => .int .u8 (f j))) : (convert 22 9 (.slice (some ⟨B, 0, none⟩) n n)).run Tryd.prog w = .ok (.string (strOfNums (raw f n))) w :=
  run_convert_bytes_arg (P := Tryd.prog) w 22 5 Tryd.underlying22 Tryd.underlying5 B 0 n n (raw f n) (by simp [raw]) (fun i hi => by
    rw [Nat.zero_add, h.cell hi]; simp [raw, List.getD, hi]) 9 Tryd.underlying9

/-- The first place where something does not hold, or none. -/
theorem first_bad (P : Nat → Prop) (n : Nat) : (∀ k, k < n → P k) ∨ ∃ m, m < n ∧ (∀ k, k < m → P k) ∧ ¬ P m := by
  induction n with
  | zero => exact .inl (fun k hk => absurd hk (by omega))
  | succ n ih =>
    rcases ih with h | ⟨m, h1, h2, h3⟩
    · by_cases hp : P n
      · exact .inl (fun k hk => by
          by_cases e : k = n
          · subst e; exact hp
          · exact h k (by omega))
      · exact .inr ⟨n, by omega, h, hp⟩
    · exact .inr ⟨m, by omega, h2, h3⟩

theorem choose_signs (s : ByteArray) (m : Nat) (h : ∀ k, k < m → ∃ v, v < 32 ∧ ∀ hk : k < s.size, sg v = (s[k].toNat : Int)) : ∃ vs : Nat → Nat, (∀ k, vs k < 32) ∧ ∀ k, (hk : k < s.size) → k < m → sg (vs k) = (s[k].toNat : Int) := by
  refine ⟨fun k => if hk : k < m then Classical.choose (h k hk) else 0, fun k => ?_, fun k hks hk => ?_⟩
  · by_cases hk : k < m
    · simp only [hk, dite_true]; exact (Classical.choose_spec (h k hk)).1
    · simp only [hk, dite_false]; decide
  · simp only [hk, dite_true]
    exact (Classical.choose_spec (h k hk)).2 hks

/-- Decode and the document's own answer alike, whatever the text. -/
theorem decode_pair (s : ByteArray) (w : World) (hT : Tab w) (hn : s.size ≤ 140737488351232) : ∃ (X : ByteArray) (c : Int),
    (∀ wr, Below w.heap.size w wr → Calls Tryd.prog 6 #[.string s] wr fun e w' => ∃ v, e = .returned (.tuple #[v, .int .i64 c]) ∧ Below wr.heap.size wr w' ∧ ∀ w'', Below w'.heap.size w' w'' → (convert 22 9 v).run Tryd.prog w'' = .ok (.string X) w'') ∧
    (∀ wr, Below w.heap.size w wr → Calls Tryd.prog 7 #[.string s] wr fun e w' => ∃ v, e = .returned (.tuple #[v, .int .i64 c]) ∧ Below wr.heap.size wr w' ∧ ∀ w'', Below w'.heap.size w' w'' → (convert 22 9 v).run Tryd.prog w'' = .ok (.string X) w'') := by
  have hp := hT.pos
  obtain ⟨Q, l, hQ, hl⟩ : ∃ Q l, 5 * s.size = 8 * Q + l ∧ l < 8 := ⟨5 * s.size / 8, 5 * s.size % 8, by omega, by omega⟩
  obtain ⟨N, hN1, hN2⟩ : ∃ N, 5 * N ≤ 8 * Q + 4 ∧ 8 * Q ≤ 5 * N := ⟨(8 * Q + 4) / 5, by omega, by omega⟩
  rcases first_bad (fun k => ∃ v, v < 32 ∧ ∀ hk : k < s.size, sg v = (s[k].toNat : Int)) s.size with hall | ⟨m, hm, hbefore, hbad⟩
  · obtain ⟨vs, h32, hvs⟩ := choose_signs s s.size hall
    have hvs' : ∀ k, (hk : k < s.size) → sg (vs k) = (s[k].toNat : Int) := fun k hk => hvs k hk hk
    obtain ⟨h, hh⟩ : ∃ h, h = bitAt 5 (fun i => (vs i : Int)) := ⟨_, rfl⟩
    obtain ⟨f, hf⟩ : ∃ f : Nat → Int, ∀ j, f j = if j < Q then val h (8 * j) 8 else 0 := ⟨fun j => if j < Q then val h (8 * j) 8 else 0, fun _ => rfl⟩
    have hsame := same_iff s vs hvs' h32 h hh Q l N hQ hl f hf hN1 hN2
    have HR := fun (wr : World) => refDecode_core s vs s.size Q wr hn (Nat.le_refl _) (by omega) (by omega) (fun k hk _ => hvs' k hk) h32 (fun hc => absurd hc (by omega)) h hh f hf N hN1 hN2
    by_cases hok : l < 5 ∧ val h (8 * Q) l = 0
    · have hs1 := hsame.2 hok
      have hraw : row h 8 Q = (raw f Q).map (Value.int .u8) := by
        simp only [row, raw, List.map_map]
        apply List.map_congr_left
        intro j hj
        rw [List.mem_range] at hj
        simp [hf, hj]
      refine ⟨strOfNums (raw f Q), 0, fun wr hb => ?_, fun wr hb => ?_⟩
      · refine (decode_any s vs wr (hT.below hb hp) (by omega) hvs' h32).mono ?_
        rintro e w' ⟨q', l', hq', hl', hb', h'⟩
        obtain rfl : q' = Q := by omega
        obtain rfl : l' = l := by omega
        rw [← hh] at h'
        rcases h' with ⟨_, _, v, he, hown⟩ | ⟨hno, _⟩
        · rw [hraw] at hown
          exact ⟨v, he, hb', fun w'' hb'' => conv_own w'' wr.heap.size v q' _ (ownsRow_below hown hb'')⟩
        · exact absurd hok hno
      · refine (HR wr).mono ?_
        rintro e w' ⟨hb', h1 | ⟨_, _, he, hrow⟩ | ⟨_, hne, _⟩⟩
        · exact absurd h1.1 (by omega)
        · exact ⟨_, he, hb', fun w'' hb'' => conv_row w'' _ _ f (hrow.of_block (hb''.block _ hrow.lt))⟩
        · rw [hs1] at hne; cases hne
    · have hs1 : ((strOfNums (enc (bitAt 8 f) N)).toList == s.toList) = false := by
        cases hc : ((strOfNums (enc (bitAt 8 f) N)).toList == s.toList) with
        | true => exact absurd (hsame.1 hc) hok
        | false => rfl
      refine ⟨ByteArray.empty, 10, fun wr hb => ?_, fun wr hb => ?_⟩
      · refine (decode_any s vs wr (hT.below hb hp) (by omega) hvs' h32).mono ?_
        rintro e w' ⟨q', l', hq', hl', hb', h'⟩
        obtain rfl : q' = Q := by omega
        obtain rfl : l' = l := by omega
        rw [← hh] at h'
        rcases h' with ⟨h1, h2, _⟩ | ⟨_, he⟩
        · exact absurd ⟨h1, h2⟩ hok
        · exact ⟨_, he, hb', fun w'' _ => conv_nil w''⟩
      · refine (HR wr).mono ?_
        rintro e w' ⟨hb', h1 | ⟨_, he1, _⟩ | ⟨_, _, he⟩⟩
        · exact absurd h1.1 (by omega)
        · rw [hs1] at he1; cases he1
        · exact ⟨_, he, hb', fun w'' _ => conv_nil w''⟩
  · obtain ⟨vs, h32, hvs⟩ := choose_signs s m hbefore
    have hno : ∀ k, k < 32 → sg k ≠ (s[m].toNat : Int) := fun k hk e => hbad ⟨k, hk, fun _ => e⟩
    refine ⟨ByteArray.empty, 10, fun wr hb => ?_, fun wr hb => ?_⟩
    · refine (decode_bad s vs m wr (hT.below hb hp) (by omega) hm (fun k hk hkm => ⟨h32 k, hvs k hk hkm⟩) hno).mono ?_
      rintro e w' ⟨he, hb'⟩
      exact ⟨_, he, hb', fun w'' _ => conv_nil w''⟩
    · refine (refDecode_core s vs m Q wr hn (by omega) (by omega) (by omega) hvs h32 (fun _ => hno) _ rfl (fun j => if j < Q then val (bitAt 5 (fun i => (vs i : Int))) (8 * j) 8 else 0) (fun _ => rfl) N hN1 hN2).mono ?_
      rintro e w' ⟨hb', ⟨_, he⟩ | ⟨h1, _⟩ | ⟨h1, _⟩⟩
      · exact ⟨_, he, hb', fun w'' _ => conv_nil w''⟩
      · exact absurd h1 (by omega)
      · exact absurd h1 (by omega)

/-- THE LAW. -/
theorem signs_any (a : Option Addr) (b off len cap : Nat) (f : Nat → Int) (s : ByteArray) (w : World) (hT : Tab w) (hl : len ≤ 140737488351232) (hs : s.size ≤ 140737488351232) (hB : Bs w a b off len f) (hnone : a = none → len = 0 ∧ cap = 0) :
    Calls Tryd.prog 3 #[.slice a len cap, .string s] w fun e w' => e = .returned (.bool true) ∧ Below w.heap.size w w' := by
  have hp := hT.pos
  obtain ⟨X, c, HD, HRD⟩ := decode_pair s w hT hs
  refine law_signs a b off len cap f s (strOfNums (enc (bitAt 8 f) ((8 * len + 4) / 5))) (strOfNums (raw f len)) X c w hl hB hnone ?_ ?_ HD HRD ?_ rfl
  · intro wr g cap' hb hcl
    exact encode_any _ g 0 len cap' f wr (hT.below hb hp) hl (fun _ => rfl) (fun i hi => by rw [Nat.zero_add]; exact hcl i hi) hB.bd hB.past
  · intro wr hb
    have A := hB.below hb
    exact refEncode_core a b off len cap _ f wr hl (by omega) (by omega) A.at' A.cell A.bd A.past
  · intro wr hb
    exact (hB.below hb).conv cap
end Go.Proofs.YtonaefebgpohjaaDoor
