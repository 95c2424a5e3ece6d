package stored

import (
	"reflect"
	"slices"
	"strings"
	"testing"

	"scangen/api"
	"scangen/places"
)

// small leads from a to b, which matches by rule 2.
func small() *places.Machine {
	return &places.Machine{
		Cuts: []places.Cut{{Low: 0, Kind: 0}, {Low: 'a', Kind: 1}, {Low: 'b', Kind: 2}, {Low: 'c', Kind: 0}},
		States: []places.State{
			{Rule: places.None, Next: []int{places.None, 1, places.None}},
			{Rule: places.None, Next: []int{places.None, places.None, 2}},
			{Rule: 2, Next: []int{places.None, places.None, places.None}},
		},
	}
}

const smallWritten = "\x04" + "\x00\x00" + "a\x01" + "b\x02" + "c\x00" + "\x00\x00\x02\x00" + "\x00\x00\x00\x03" + "\x03\x00\x00\x00"

func TestP8Written(t *testing.T) {
	if got := Write(small()); got != smallWritten {
		t.Errorf("P8: Write = %q, want %q", got, smallWritten)
	}
	got, err := Read(smallWritten)
	if err != nil || !reflect.DeepEqual(got, small()) {
		t.Errorf("P8: Read = %v, %v", got, err)
	}
}

// The greatest cut, and as many states as there may be: numbers of one byte, of two and of three.
func TestP8WrittenAtTheEdges(t *testing.T) {
	m := &places.Machine{Cuts: []places.Cut{{Low: 0, Kind: 0}, {Low: 0xE000, Kind: 1}, {Low: 0x110000, Kind: 0}}}
	for state := range api.MaxSets {
		m.States = append(m.States, places.State{Rule: places.None, Next: []int{places.None, state + 1}})
	}
	m.States = append(m.States, places.State{Rule: api.MaxRules - 1, Next: []int{places.None, api.MaxSets}})
	got, err := Read(Write(m))
	if err != nil || !reflect.DeepEqual(got, m) {
		t.Errorf("P8: Read of the greatest machine: %v, %v", got, err)
	}
}

func TestP8WrongBytes(t *testing.T) {
	for name, s := range map[string]string{
		"nothing":                     "",
		"no cuts":                     "\x00",
		"no cuts, a state":            "\x00\x00",
		"a cut alone":                 "\x01\x00\x00",
		"cuts cut off":                smallWritten[:6],
		"more cuts than numbers":      "\xff\xff\x7f" + smallWritten[1:],
		"states cut off":              smallWritten[:len(smallWritten)-1],
		"a state cut off":             smallWritten[:len(smallWritten)-4],
		"a state too many":            smallWritten + "\x03\x00\x00\x00",
		"a number too many":           smallWritten + "\x00",
		"twice":                       smallWritten + smallWritten,
		"amid a number":               smallWritten + "\x80",
		"a number in two bytes":       "\x84\x00" + smallWritten[1:],
		"a number in three":           "\x84\x80\x00" + smallWritten[1:],
		"the last in two":             smallWritten[:len(smallWritten)-1] + "\x80\x00",
		"a number of four bytes":      "\x84\x80\x80\x00" + smallWritten[1:],
		"a number below 0":            strings.Repeat("\xff", 9) + "\x01" + smallWritten[1:],
		"a kind that is far too many": "\x04\x00\x00a\x01b\xff\xff\x7fc\x00" + smallWritten[9:],
		"a rule too many":             strings.Replace(smallWritten, "\x03\x00\x00\x00", "\x09\x00\x00\x00", 1),
		"all ones":                    strings.Repeat("\x01", 1<<20),
		"all zeros":                   strings.Repeat("\x00", 1<<20),
		"all high":                    strings.Repeat("\xff", 1<<20),
		"very many states":            smallWritten + strings.Repeat("\x01\x00\x02\x00", 1<<18),
	} {
		if m, err := Read(s); m != nil || err != api.ErrTables {
			t.Errorf("P8: Read of %s: %v, %v", name, m != nil, err)
		}
	}
}

func TestP8Numbers(t *testing.T) {
	for _, list := range [][]int{nil, {0}, {1, 127, 128}, {129, 16383, 16384, 0}, {0x10FFFF, 0x110000, 1<<21 - 1, 255, 256}} {
		var out []byte
		for _, n := range list {
			out = appendNumber(out, n)
		}
		if got := numbers(string(out)); !slices.Equal(got, list) {
			t.Errorf("P8: %v is read as %v", list, got)
		}
	}
}
