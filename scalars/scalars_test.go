package scalars

import (
	"slices"
	"testing"
	"unicode/utf8"
)

func TestOf(t *testing.T) {
	for _, c := range []struct {
		ranges []Range
		want   Set
	}{
		{nil, nil},
		{[]Range{{'b', 'a'}}, nil},
		{[]Range{{'a', 'a'}}, Set{{'a', 'a'}}},
		{[]Range{{'x', 'z'}, {'a', 'c'}, {'d', 'e'}, {'b', 'b'}}, Set{{'a', 'e'}, {'x', 'z'}}},
		{[]Range{{'a', 'z'}, {'c', 'd'}, {'z', 'z'}}, Set{{'a', 'z'}}},
		{[]Range{{0xD7FF, 0xE000}}, Set{{0xD7FF, 0xD7FF}, {0xE000, 0xE000}}},
		{[]Range{{0xD800, 0xDFFF}}, nil},
		{[]Range{{0, utf8.MaxRune}}, Set{{0, 0xD7FF}, {0xE000, utf8.MaxRune}}},
	} {
		if got := Of(c.ranges...); !slices.Equal(got, c.want) {
			t.Errorf("Of(%v) = %v, want %v", c.ranges, got, c.want)
		}
	}
}

func TestOfLeavesItsArgument(t *testing.T) {
	ranges := []Range{{'x', 'z'}, {'a', 'y'}}
	Of(ranges...)
	if ranges[0] != (Range{'x', 'z'}) || ranges[1] != (Range{'a', 'y'}) {
		t.Errorf("what was handed in reads %v", ranges)
	}
}

func TestTurned(t *testing.T) {
	for _, s := range []Set{
		nil,
		Of(Range{0, 0}),
		Of(Range{'\n', '\n'}),
		Of(Range{'a', 'z'}, Range{'é', 0x20AC}),
		Of(Range{0xD7FF, 0xE000}),
		Of(Range{1, utf8.MaxRune}),
		Of(Range{0, 0xD7FF}, Range{0xE001, utf8.MaxRune}),
		Of(Range{0, utf8.MaxRune}),
	} {
		turned := s.Turned()
		for r := rune(-1); r <= utf8.MaxRune+1; r++ {
			want := utf8.ValidRune(r) && !s.Has(r)
			if turned.Has(r) != want {
				t.Fatalf("%v turned has %#x: %v, want %v", s, r, !want, want)
			}
		}
		if got := turned.Turned(); !slices.Equal(got, s) {
			t.Errorf("%v turned twice is %v", s, got)
		}
	}
}
