package lex_test

import (
	"slices"
	"strings"
	"testing"

	"cosigner/api"
	"cosigner/lex"
)

// P1.1
func TestKeywords(t *testing.T) {
	want := []string{
		"and", "as", "attached", "check", "class", "create", "deferred", "detachable", "do", "else", "end", "ensure",
		"feature", "from", "if", "implies", "inherit", "invariant", "local", "loop", "not", "old", "or", "put", "raise",
		"redefine", "rename", "require", "rescue", "retry", "select", "separate", "then", "undefine", "until", "variant", "when",
	}
	got := lex.Keywords()
	if !slices.Equal(got, want) {
		t.Error(got)
	}
	got[0] = "spoilt"
	if !slices.Equal(lex.Keywords(), want) {
		t.Error("a result shares memory with a later one")
	}
	for _, s := range want {
		if k, e := lex.Shape(s); k != api.TkWord || e != api.OK {
			t.Error(s, k, e)
		}
	}
}

// P1.1
func TestShapeOfTokens(t *testing.T) {
	twenty := strings.Repeat("a", api.MaxName)
	for kind, l := range map[int][]string{
		api.TkName:   {"a", "z", "a_", "a__1", "z9", "truex", "true_", "results", "ifs", "end1", "voids", "any", "integer", twenty, "a" + strings.Repeat("_", 19)},
		api.TkClass:  {"A", "Z", "A_", "Z9", "LIST_2", "IF", "TRUE", "RESULT", "INTEGER", "BOOLEAN", "ANY", "NONE", strings.ToUpper(twenty), "A0000000000000000000"},
		api.TkWord:   {"True", "False", "Void", "Current", "Result", "if", "and", "when", "detachable"},
		api.TkNumber: {"0", "1", "9", "10", "100", "1099511627775", "1099511627776"},
		api.TkSign:   {":=", "/=", "<=", ">=", "//", "=", "<", ">", "+", "-", "*", "%", "(", ")", "[", "]", "{", "}", ",", ";", ":", "."},
	} {
		for _, s := range l {
			if k, e := lex.Shape(s); k != kind || e != api.OK {
				t.Errorf("%q: %d %d, want %d", s, k, e, kind)
			}
		}
	}
}

// wrongShapes are texts that are no tokens.
var wrongShapes = map[api.Errno][]string{
	api.ErrName: {"true", "false", "void", "current", "result"},
	api.ErrLimit: {
		strings.Repeat("a", api.MaxName+1), strings.Repeat("A", api.MaxName+1), "a" + strings.Repeat("_", 20), "Z" + strings.Repeat("0", 20),
		"detachable_detachable", strings.Repeat("z", 30000),
		"1099511627777", "9999999999999", "10000000000000", "18446744073709551616", "18446744073709551617", "9" + strings.Repeat("0", 30000),
	},
	api.ErrForm: {
		"", " ", "\n", "\t", "\x00", "_", "_a", "_A", "_1", "!", "é", "\xff",
		"aB", "Ab", "If", "IF_a", "Results", "TRue", "True1", "Void_", "trUE", strings.Repeat("a", 21) + "B", strings.Repeat("A", 21) + "b",
		"00", "01", "007", "0a", "1a", "12A", "1_", "1_000", strings.Repeat("0", 20), "0" + strings.Repeat("9", 20), strings.Repeat("9", 20) + "a",
		"a b", " a", "a ", "a\n", "\na", "1 ", " 1", "a.b", "a!", "aé", "1.0", "-1", "+1", ":= ", " =", "= ",
		"--", "---", "-- a", "--a", "/", "\\", "==", ":==", "///", "/==", "<>", "<<", "=<", "::", "..", "()", "&", "|", "'", "\"", "?", "@", "#", "$", "^", "~", "`",
	},
}

// P1.1
func TestShapeErrors(t *testing.T) {
	for want, l := range wrongShapes {
		for _, s := range l {
			if k, e := lex.Shape(s); k != 0 || e != want {
				t.Errorf("%.30q: %d %d, want error %d", s, k, e, want)
			}
		}
	}
}

// P1.1: all texts of one byte, and of two.
func TestShapeOfShortTexts(t *testing.T) {
	check := func(s string) {
		kind, run, want := plainRun(s)
		if run != s || kind == api.TkNote {
			kind, want = 0, api.ErrForm
		}
		if want != api.OK {
			kind = 0
		}
		if k, e := lex.Shape(s); k != kind || e != want {
			t.Errorf("%q: %d %d, want %d %d", s, k, e, kind, want)
		}
	}
	for a := 0; a < 256; a++ {
		check(string([]byte{byte(a)}))
		for b := 0; b < 256; b++ {
			check(string([]byte{byte(a), byte(b)}))
		}
	}
}

// P1.1
func TestValue(t *testing.T) {
	for s, want := range map[string]int{"0": 0, "7": 7, "10": 10, "1200": 1200, "1099511627775": 1<<40 - 1, "1099511627776": 1 << 40} {
		if n, e := lex.Value(s); n != want || e != api.OK {
			t.Error(s, n, e)
		}
	}
	for _, s := range []string{"a", "A", "if", "True", "-", ":="} {
		if n, e := lex.Value(s); n != 0 || e != api.ErrForm {
			t.Error(s, n, e)
		}
	}
	for want, l := range wrongShapes {
		for _, s := range l {
			if n, e := lex.Value(s); n != 0 || e != want {
				t.Errorf("%.30q: %d %d, want error %d", s, n, e, want)
			}
		}
	}
}
