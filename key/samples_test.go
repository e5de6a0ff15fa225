package key_test

import "strings"

// bytesThatCount are those at which something changes, and their neighbours.
var bytesThatCount = []string{"\x00", "\x01", "\x02", "a", "\xfe", "\xff"}

// textsUpTo gives all texts of at most that many of the bytes that count, the shortest ones first.
func textsUpTo(long int) []string {
	all := []string{""}
	ahead := all
	for range long {
		var next []string
		for _, s := range ahead {
			for _, b := range bytesThatCount {
				next = append(next, s+b)
			}
		}
		all = append(all, next...)
		ahead = next
	}
	return all
}

// listsUpTo gives all lists of at most that many of the parts, the shortest ones first.
func listsUpTo(long int, parts []string) [][]string {
	all := [][]string{nil}
	ahead := all
	for range long {
		var next [][]string
		for _, l := range ahead {
			for _, p := range parts {
				next = append(next, append(l[:len(l):len(l)], p))
			}
		}
		all = append(all, next...)
		ahead = next
	}
	return all
}

// written is what the chapter says of Make, in another way.
func written(kind byte, parts []string) string {
	var k strings.Builder
	k.WriteByte(kind)
	for _, p := range parts {
		k.WriteString(strings.ReplaceAll(p, "\x00", "\x00\xff") + "\x00\x01")
	}
	return k.String()
}

// everyByte is a text of all bytes.
func everyByte() string {
	b := make([]byte, 256)
	for i := range b {
		b[i] = byte(i)
	}
	return string(b)
}
