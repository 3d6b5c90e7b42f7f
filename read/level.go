package read

// The levels of expressions, from those that bind least on. An expression stands without brackets where one of its level, or of a lower one, may stand. (Nothing but words and calls may stand ahead of a dot or behind `attached`, and there all of them may: they are one level.)
const (
	levelImplies = iota + 1
	levelOr
	levelAnd
	levelRel
	levelSum
	levelProd
	levelFront
	levelCall
)

// levels returns the levels of the operators with two sides.
func levels() map[string]int {
	return map[string]int{
		"implies": levelImplies, "or": levelOr, "and": levelAnd,
		"=": levelRel, "/=": levelRel, "<": levelRel, "<=": levelRel, ">": levelRel, ">=": levelRel,
		"+": levelSum, "-": levelSum, "*": levelProd, "//": levelProd, "%": levelProd,
	}
}

// sides returns the least levels that may stand without brackets on the two sides of an operator of a level: most are grouped to the left, implies to the right, and those of levelRel not at all.
func sides(level int) (left, right int) {
	switch level {
	case levelImplies:
		return level + 1, level
	case levelRel:
		return level + 1, level + 1
	}
	return level, level + 1
}
