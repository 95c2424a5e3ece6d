package scangen

import (
	"scangen/api"
	"scangen/places"
	"scangen/tree"
)

// Compile makes tables of rules (P3 to P6).
func Compile(rules []string) (*Tables, error) {
	if err := checkSizes(rules); err != nil {
		return nil, err
	}
	trees, err := readAll(rules)
	if err != nil {
		return nil, err
	}
	machine, err := places.Build(trees)
	if err != nil {
		return nil, err
	}
	return &Tables{machine}, nil
}

func checkSizes(rules []string) error {
	if len(rules) < 1 || len(rules) > api.MaxRules {
		return api.ErrRules
	}
	for i, rule := range rules {
		if len(rule) > api.MaxRule {
			return &api.Fault{E: api.ErrRules, Rule: i}
		}
	}
	return nil
}

// readAll counts the places rule by rule: too many of them are told ahead of what is wrong in a later rule.
func readAll(rules []string) ([]tree.Node, error) {
	var trees []tree.Node
	count := 0
	for i, rule := range rules {
		root, err := tree.Read(rule, i)
		if err != nil {
			return nil, err
		}
		count += root.Places()
		if count > api.MaxPlaces {
			return nil, &api.Fault{E: api.ErrSize, Rule: i}
		}
		trees = append(trees, root)
	}
	return trees, nil
}
