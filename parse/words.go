package parse

import "peristyle/api"

// aggregates are the words of aggregates, each at its number.
func aggregates() []string {
	return []string{api.AggCount: "count", api.AggSum: "sum", api.AggMin: "min", api.AggMax: "max"}
}

// signs are the signs of tests, each at its number.
func signs() []string {
	return []string{api.TestEq: "=", api.TestNe: "<>", api.TestLt: "<", api.TestLe: "<=", api.TestGt: ">", api.TestGe: ">="}
}

// ways are the words of ways, each at its number; that of using is none, as it has names behind.
func ways() []string {
	return []string{
		api.HintEarly: "early", api.HintLate: "late",
		api.HintHash: "hash", api.HintMerge: "merge",
		api.HintHashed: "hashed", api.HintSorted: "sorted",
		api.HintSpans: "spans", api.HintWords: "words", api.HintPlaces: "places",
	}
}
