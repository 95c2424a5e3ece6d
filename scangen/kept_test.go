package scangen

import (
	"reflect"
	"testing"
)

func TestP2RulesAreNotKept(t *testing.T) {
	rules := []string{"a+", "[b-d]"}
	tables, err := Compile(rules)
	if err != nil {
		t.Fatal(err)
	}
	rules[0], rules[1] = "x", "y"
	again, err := Compile([]string{"a+", "[b-d]"})
	if err != nil || !reflect.DeepEqual(tables, again) {
		t.Errorf("P2: the tables changed with the list of the rules: %v", err)
	}
}
