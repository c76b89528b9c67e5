package prims

import "rostrum/api"

const count = 47

// primitive is a row of the table. Its arguments' types are letters: N a number, S a string, Y a symbol, L a list, P a pair, V a vector, X anything; the last one stands for any number of arguments, none too, if a * is behind it.
type primitive struct {
	name  string
	takes string
	do    func(call) (api.Word, api.Errno)
}

// table is all primitives, each at its number.
func table() [count]primitive {
	return [count]primitive{
		{"+", "N*", call.plus},
		{"-", "NN*", call.minus},
		{"*", "N*", call.times},
		{"quotient", "NN", call.quotient},
		{"remainder", "NN", call.remainder},
		{"=", "NN", call.isSameNumber},
		{"<", "NN", call.isBelow},
		{">", "NN", call.isAbove},
		{"eq?", "XX", call.isEq},
		{"equal?", "XX", call.isEqual},
		{"cons", "XX", call.cons},
		{"car", "P", call.car},
		{"cdr", "P", call.cdr},
		{"set-car!", "PX", call.setCar},
		{"set-cdr!", "PX", call.setCdr},
		{"null?", "X", call.isNull},
		{"pair?", "X", call.isPair},
		{"list?", "X", call.isList},
		{"number?", "X", call.isNumber},
		{"symbol?", "X", call.isSymbol},
		{"string?", "X", call.isString},
		{"vector?", "X", call.isVector},
		{"procedure?", "X", call.isProcedure},
		{"boolean?", "X", call.isBoolean},
		{"not", "X", call.not},
		{"list", "X*", call.list},
		{"vector", "X*", call.vector},
		{"length", "L", call.length},
		{"reverse", "L", call.reverse},
		{"append", "L*", call.append},
		{"vector-ref", "VN", call.vectorRef},
		{"vector-set!", "VNX", call.vectorSet},
		{"vector-length", "V", call.vectorLength},
		{"make-vector", "NX", call.makeVector},
		{"string-append", "S*", call.stringAppend},
		{"string-length", "S", call.stringLength},
		{"string->symbol", "S", call.stringToSymbol},
		{"symbol->string", "Y", call.symbolToString},
		{"number->string", "N", call.numberToString},
		{"string->number", "S", call.stringToNumber},
		{"error", "SX*", call.fail},
		{"apply", "X*", call.machines},
		{"call/cc", "X*", call.machines},
		{"dynamic-wind", "X*", call.machines},
		{"suspend", "X*", call.machines},
		{"root-ref", "X*", call.machines},
		{"root-set!", "X*", call.machines},
	}
}
