package places

import (
	"regexp"
	"strings"
	"testing"
	"unicode/utf8"
)

// longestTail takes P7 by its words, among the texts: the most bytes, and the most whole scalars, that stand behind the longest beginning that matches.
func longestTail(rule string, texts []string) (bytes, scalars int) {
	asked := regexp.MustCompile(`\A(?:` + rule + `)\z`)
	matched, alive := map[string]bool{}, map[string]bool{}
	for _, text := range texts {
		if !asked.MatchString(text) {
			continue
		}
		matched[text] = true
		for n := range len(text) {
			alive[text[:n+1]] = true
		}
	}
	for text := range alive {
		n := len(text)
		for n > 0 && !matched[text[:n]] {
			n--
		}
		bytes = max(bytes, len(text)-n)
		if utf8.ValidString(text) {
			scalars = max(scalars, utf8.RuneCountInString(text[n:]))
		}
	}
	return bytes, scalars
}

// With three sets at most, more than three scalars without a match have gone round; and ten scalars are enough to lead to the tail, through it and to a match.
func TestP7ByTheWords(t *testing.T) {
	const sets, longest = 3, 10
	counts := map[bool]int{}
	for i, rule := range someRules() {
		letter := []string{"b", "é", "€", "\U0001F600"}[i%4]
		m := build(t, strings.ReplaceAll(rule, "b", letter))
		if len(m.States)-1 > sets {
			continue
		}
		var texts []string
		for _, text := range someTexts(longest) {
			texts = append(texts, strings.ReplaceAll(text, "b", letter))
		}
		bytes, scalars := longestTail(strings.ReplaceAll(rule, "b", letter), texts)
		want := 1 + bytes
		if scalars > sets {
			want = -1
		}
		counts[want == -1]++
		if got := m.Bound(); got != want {
			t.Fatalf("P7: the bound of %q with %q is %d, want %d", rule, letter, got, want)
		}
	}
	if counts[true] < 20 || counts[false] < 100 {
		t.Errorf("too few rules have a bound, or none: %v", counts)
	}
}

func TestP7Widths(t *testing.T) {
	for _, c := range []struct {
		rule string
		want int
	}{
		{`\u{0}`, 1}, {`\u{7f}`, 1}, {`\u{80}`, 2}, {`\u{7ff}`, 2}, {`\u{800}`, 3}, {`\u{d7ff}`, 3}, {`\u{e000}`, 3}, {`\u{ffff}`, 3}, {`\u{10000}`, 4}, {`\u{10ffff}`, 4},
		{`[\u{0}-\u{7f}]`, 1}, {`[\u{0}-\u{80}]`, 2}, {`[\u{7f}-\u{7ff}]`, 2}, {`[\u{7f}-\u{800}]`, 3}, {`[\u{d7ff}-\u{e000}]`, 3}, {`[a-\u{ffff}]`, 3}, {`[a-\u{10000}]`, 4},
		{`[\u{10000}a]`, 4}, {`[é\u{0}]`, 2}, {`[^\u{80}-\u{10ffff}]`, 1}, {`[^\u{800}-\u{10ffff}]`, 2}, {`[^\u{10000}-\u{10ffff}]`, 3},
	} {
		if got := build(t, c.rule).Bound(); got != c.want {
			t.Errorf("P7: the bound of %q is %d, want %d", c.rule, got, c.want)
		}
	}
}
