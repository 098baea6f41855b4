// Package ops tells what the instructions of the machine are: package code writes them, package vm runs them.
package ops

// The kinds of units: the first number of their rows. The second one is the number of their parameters.
const (
	Procedure = 0
	Function  = 1
	Block     = 2
)

// The operations. "Puts" and "takes" mean the stack of the call.
const (
	Params     = iota // S: the names of the parameters, with commas; the first one of each unit
	Const             // puts the value of kind A, with the number B and the text S
	Load              // puts what the name S stands for
	Unary             // S
	Binary            // S
	Test              // S: .AND. or .OR.; goes to A if the operand decides
	Join              // S: .AND. or .OR. of two operands
	Index             // takes a place and an array, puts the element
	List              // takes A elements, puts an array
	MakeBlock         // puts a block whose body is the unit A
	Macro             // takes a text, puts the value of what it means
	Reference         // puts the variable S itself
	Pass              // puts the variable S itself, or the value of a field
	Takes             // dies unless there is a function S that takes A arguments
	TakesDo           // dies unless there is a procedure S that takes A arguments
	Call              // takes A arguments, puts the value of the function S
	Do                // takes A arguments, calls the procedure S
	Die               // by A
	Unless            // takes a condition, goes to A if it is not true
	Jump              // to A
	Alias             // makes the work area S the current one
	Unalias           // makes the one before it the current one again
	Pop               // takes a value
	Step              // counts a step
	Store             // takes a value and sets the variable S
	StoreIndex        // takes a place, an array and a value, and sets the element
	StoreField        // takes a value and sets a field; S: the alias, a blank, and the field
	StoreMacro        // takes a text and a value, and sets the variable whose name it is
	Print             // takes A values and prints them
	Local             // takes a value and makes the variable S
	Private           // likewise
	Static            // likewise
	Public            // likewise
	HasStatic         // goes to A if there is a static variable S
	HasPublic         // goes to A if there is a public variable S
	ForBegin          // takes from, to and step, and puts to, step and from if they are right
	ForTest           // sets the variable S to the value on top, and goes to A if it is beyond the end
	ForNext           // makes the value on top the next one of the variable S
	Drop              // takes A values
	Return            // takes a value and ends the call
	Guard             // begins a sequence; what breaks or dies goes on at A, with its value put
	Unguard           // ends A sequences
	Break             // takes a value
	Need              // dies unless there is a current work area
	GoEnd             // S: TOP or BOTTOM
	Go                // takes a number
	Skip              // takes a number
	Seek              // takes a value
	Command           // S: a command as a line of a program
	Count             // how many operations there are
)

// Jumps tells whether an operation may go to A.
func Jumps(op int) bool {
	switch op {
	case Test, Unless, Jump, HasStatic, HasPublic, ForTest, Guard:
		return true
	}
	return false
}

// IsNamed tells whether the text of an operation is a name.
func IsNamed(op int) bool {
	switch op {
	case Load, Reference, Pass, Takes, TakesDo, Call, Do, Alias, Store, Local, Private, Static, Public, HasStatic, HasPublic, ForTest, ForNext:
		return true
	}
	return false
}

// Counts tells whether A is how many things an operation means.
func Counts(op int) bool {
	switch op {
	case List, Takes, TakesDo, Call, Do, Print, Drop, Unguard:
		return true
	}
	return false
}
