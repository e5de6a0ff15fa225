package expr

import (
	"strings"

	"conductor/api"
)

const (
	opens  = "("
	closes = ")"
)

// third is the strength of which no sign follows another one.
const third = 3

// signs are the texts of the Ops that are signs, by the Ops.
var signs = [...]string{
	api.OpNeg: "-", api.OpNot: "!",
	api.OpMul: "*", api.OpDiv: "/", api.OpMod: "%",
	api.OpAdd: "+", api.OpSub: "-",
	api.OpLt: "<", api.OpLe: "<=", api.OpGt: ">", api.OpGe: ">=", api.OpEq: "==", api.OpNe: "!=",
	api.OpAnd: "&&", api.OpOr: "||",
}

// takes tells how many values an Op takes; below 0, if it is none.
func takes(op int) int {
	switch {
	case op < api.OpVal || op > api.OpOr:
		return -1
	case op < api.OpNeg:
		return 0
	case op < api.OpMul:
		return 1
	}
	return 2
}

// strength tells how strong an Op is: one more than the next weaker ones, to which it falls through.
func strength(op int) int {
	strong := 0
	switch op {
	default: // a value, or a call: nothing that stands beside it takes a part of it
		strong++
		fallthrough
	case api.OpNeg, api.OpNot:
		strong++
		fallthrough
	case api.OpMul, api.OpDiv, api.OpMod:
		strong++
		fallthrough
	case api.OpAdd, api.OpSub:
		strong++
		fallthrough
	case api.OpLt, api.OpLe, api.OpGt, api.OpGe, api.OpEq, api.OpNe:
		strong++
		fallthrough
	case api.OpAnd:
		strong++
		fallthrough
	case api.OpOr:
		strong++
	}
	return strong
}

// least tells how strong what an Op takes at a place (0: the first one) must be, to stand there without brackets.
func least(op, place int) int {
	own := strength(op)
	switch {
	case op == api.OpLen: // its own brackets are enough
		return 0
	case place > 0, own == third:
		return own + 1
	}
	return own
}

// signed gives the Op, of those from first up to last, of which a text is the sign.
func signed(text string, first, last int) (int, bool) {
	for op := first; op <= last; op++ {
		if signs[op] == text {
			return op, true
		}
	}
	return 0, false
}

// signSize tells how many bytes the longest sign, or bracket, at the front of s has; 0, if there is none.
func signSize(s string) int {
	size := 0
	if strings.HasPrefix(s, opens) || strings.HasPrefix(s, closes) {
		size = 1
	}
	for _, sign := range signs {
		if strings.HasPrefix(s, sign) {
			size = max(size, len(sign))
		}
	}
	return size
}
