package places

import "testing"

func TestStepsByTheCuts(t *testing.T) {
	for _, rules := range [][]string{{""}, {"a"}, {"[b-d]", "c", "[^x]y"}, {`[\u{0}a-cx\u{10ffff}]+`, ".b"}} {
		m := build(t, rules...)
		for state, s := range m.States {
			for low := range rune('z') {
				if got, want := m.After(state, low), s.Next[kindOf(m, low)]; got != want {
					t.Fatalf("P6: %q: behind %d and %q stands %d, want %d", rules, state, low, got, want)
				}
				want := false
				for high := low; high < 'z'; high++ {
					want = want || s.Next[kindOf(m, high)] != None
					if got := m.GoesOn(state, low, high); got != want {
						t.Fatalf("P6: %q: %d goes on from %q to %q: %v", rules, state, low, high, got)
					}
				}
			}
		}
	}
}
