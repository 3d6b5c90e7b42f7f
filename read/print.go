package read

import (
	"strings"

	"cosigner/api"
	"cosigner/lex"
)

// Whole returns the first error of classes that no text has, and the index of the class.
func Whole(l []api.Class) (api.Errno, int) {
	_, err, at := systemTokens(l)
	return err, at
}

// Print returns the text of classes.
func Print(l []api.Class) (string, api.Errno) {
	classes, err, _ := systemTokens(l)
	if err != api.OK {
		return "", err
	}
	var text strings.Builder
	count := 0
	for _, tokens := range classes {
		s, err := lex.Write(tokens)
		if err != api.OK {
			return "", err
		}
		count += len(tokens)
		text.WriteString(s)
		text.WriteByte('\n')
	}
	if count > api.MaxTokens || text.Len() > api.MaxText {
		return "", api.ErrLimit
	}
	return text.String(), api.OK
}

// TypeText returns the text of a type.
func TypeText(t api.Type) (string, api.Errno) {
	return textOf(t, typeRules(), withFormals(nil, t)...)
}

// ExprText returns the text of an expression.
func ExprText(e api.Expr) (string, api.Errno) {
	return textOf(e, exprRules())
}

// StmtsText returns the text of statements.
func StmtsText(l []api.Stmt) (string, api.Errno) {
	return textOf(l, stmtsRules())
}

// systemTokens returns the tokens of each of some classes; or the first error, and the index of the class.
func systemTokens(l []api.Class) ([][]api.Token, api.Errno, int) {
	if len(l) > api.MaxClasses {
		return nil, api.ErrLimit, api.MaxClasses
	}
	var all [][]api.Token
	for i, c := range l {
		tokens, err := tokensOf(c, classRules())
		if err != api.OK {
			return nil, err, i
		}
		all = append(all, tokens)
	}
	return all, api.OK, 0
}

// textOf returns the text of a tree that uses some formals.
func textOf[T any](tree T, r rules[T], formals ...string) (string, api.Errno) {
	tokens, err := tokensOf(tree, r, formals...)
	if err != api.OK {
		return "", err
	}
	return lex.Write(tokens)
}
