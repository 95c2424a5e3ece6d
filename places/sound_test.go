package places

import (
	"testing"
	"unicode/utf8"
)

func TestP8BuildMakesSoundMachines(t *testing.T) {
	lists := [][]string{{""}, {"."}, {"[^a]", "a"}, {`[\u{0}-\u{10ffff}]`}, {`[\u{d7ff}-\u{e000}]`}, {`\u{10ffff}`}, {"a", "ab", "abc*d"}, {"(a|b)*a(a|b){6}", "", "(d|e)*d(d|e){5}", "uuuuuuuu"}}
	for _, rule := range someRules() {
		lists = append(lists, []string{rule, "é"})
	}
	for _, rules := range lists {
		if !build(t, rules...).Sound() {
			t.Errorf("P8: the machine of %q is not sound", rules)
		}
	}
}

// small has two kinds; from the empty text on, a leads to the first state and then to the second, which matches.
func small() *Machine {
	return &Machine{
		Cuts: []Cut{{0, 0}, {'a', 1}, {'b', 0}},
		States: []State{
			{None, []int{None, 1}},
			{None, []int{None, 2}},
			{0, []int{None, None}},
		},
	}
}

func chain(states int) *Machine {
	m := &Machine{Cuts: []Cut{{0, 0}, {'a', 1}, {'b', 0}}}
	for at := range states {
		m.States = append(m.States, State{None, []int{None, at + 1}})
	}
	m.States[states-1] = State{7, []int{None, None}}
	return m
}

func TestP8Sound(t *testing.T) {
	for name, m := range map[string]*Machine{
		"small":                      small(),
		"only the empty text":        {Cuts: []Cut{{0, 0}}, States: []State{{None, []int{None}}}},
		"most states":                chain(201),
		"neighbours of one kind":     {Cuts: []Cut{{0, 0}, {1, 0}}, States: []State{{None, []int{None}}}},
		"all scalars":                {Cuts: []Cut{{0, 0}, {0xD800, 1}, {0xE000, 0}, {0x110000, 1}}, States: []State{{None, []int{1, None}}, {0, []int{1, None}}}},
		"a state that leads to self": {Cuts: small().Cuts, States: []State{{None, []int{None, 1}}, {3, []int{None, 1}}}},
	} {
		if !m.Sound() {
			t.Errorf("P8: not sound: %s", name)
		}
	}
}

func TestP8NotSound(t *testing.T) {
	for name, spoil := range map[string]func(m *Machine){
		"no cuts":                       func(m *Machine) { m.Cuts = nil },
		"no cuts, no kinds":             func(m *Machine) { m.Cuts, m.States = nil, []State{{Rule: None}} },
		"no cut at 0":                   func(m *Machine) { m.Cuts[0].Low = 1 },
		"a cut below 0":                 func(m *Machine) { m.Cuts[0].Low = -1 },
		"a cut twice":                   func(m *Machine) { m.Cuts[2].Low = 'a' },
		"a cut that falls":              func(m *Machine) { m.Cuts[2].Low = '1' },
		"a cut behind the greatest":     func(m *Machine) { m.Cuts = append(m.Cuts, Cut{utf8.MaxRune + 2, 0}) },
		"a kind below 0":                func(m *Machine) { m.Cuts[2].Kind = -1 },
		"a kind too many":               func(m *Machine) { m.Cuts[2].Kind = 2 },
		"a kind left out":               func(m *Machine) { m.Cuts[1].Kind = 2 },
		"a kind too few":                func(m *Machine) { m.Cuts[1].Kind = 0 },
		"kinds not as met":              func(m *Machine) { m.Cuts[0].Kind, m.Cuts[1].Kind = 1, 0 },
		"no states":                     func(m *Machine) { m.States = nil },
		"too many states":               func(m *Machine) { *m = *chain(202) },
		"a match of the empty text":     func(m *Machine) { m.States[0].Rule = 0 },
		"a rule below none":             func(m *Machine) { m.States[1].Rule = -2 },
		"a rule too many":               func(m *Machine) { m.States[2].Rule = 8 },
		"a short row":                   func(m *Machine) { m.States[1].Next = m.States[1].Next[:1] },
		"a short last row":              func(m *Machine) { m.States[2].Next = nil },
		"a long row":                    func(m *Machine) { m.States[2].Next = append(m.States[2].Next, None) },
		"a way back to the empty text":  func(m *Machine) { m.States[2].Next[1] = 0 },
		"a way to below none":           func(m *Machine) { m.States[2].Next[1] = -2 },
		"a way to no state":             func(m *Machine) { m.States[2].Next[1] = 3 },
		"a way to far behind":           func(m *Machine) { m.States[2].Next[1] = 1000 },
		"states not as met":             func(m *Machine) { m.States[0].Next[1] = 2 },
		"a state without a text":        func(m *Machine) { m.States[1].Rule, m.States[1].Next[1] = 0, None },
		"a state only from itself":      func(m *Machine) { m.States = append(m.States, State{0, []int{None, 3}}) },
		"no match":                      func(m *Machine) { m.States[2].Rule = None },
		"a state that leads to none":    func(m *Machine) { m.States[2].Rule, m.States[1].Rule = None, 0 },
		"a way round without a match":   func(m *Machine) { m.States[2], m.States[1].Rule = State{None, []int{None, 2}}, 0 },
		"a first state that leads none": func(m *Machine) { m.States = m.States[:2]; m.States[1].Next[1] = None },
		"a live surrogate":              func(m *Machine) { m.Cuts[1].Low, m.Cuts[2].Low = 0xDFFF, 0xE000 },
		"live from a surrogate on":      func(m *Machine) { m.Cuts[1].Low, m.Cuts[2].Low = 0xDFFF, 0xE001 },
		"live up to a surrogate":        func(m *Machine) { m.Cuts[1].Low, m.Cuts[2].Low = 0xD700, 0xD801 },
		"live through the surrogates":   func(m *Machine) { m.Cuts[1].Low, m.Cuts[2].Low = 0xD7FF, 0xE001 },
		"live behind the greatest":      func(m *Machine) { m.Cuts = m.Cuts[:2] },
		"live behind 0x110000":          func(m *Machine) { m.Cuts = []Cut{{0, 0}, {utf8.MaxRune + 1, 1}} },
	} {
		m := small()
		spoil(m)
		if m.Sound() {
			t.Errorf("P8: sound: %s", name)
		}
	}
}

// Where the last scalar ahead of the surrogates, and the first behind them, stand alone, they lead on.
func TestP8SoundBesideSurrogates(t *testing.T) {
	for _, low := range []rune{0xD7FF, 0xE000, utf8.MaxRune} {
		m := small()
		m.Cuts[1].Low, m.Cuts[2].Low = low, low+1
		if !m.Sound() || m.Bound() != 2*utf8.RuneLen(low) {
			t.Errorf("P8: not sound, or bound %d: two of %#x", m.Bound(), low)
		}
	}
}
