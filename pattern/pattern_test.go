package pattern

import (
	"slices"
	"strings"
	"testing"
)

// patterns has patterns of every form, and the names that they bind.
var patterns = []struct{ s, names string }{
	// names, literals, heads
	{"x", "x"}, {"Head⟨( + )⟩", "+"}, {"Head⟨( - )⟩", "-"}, {"Head⟨( ! )⟩", "!"}, {"Head⟨( Op·: )⟩", ":"}, {"Var·case", "case"},
	{"C", ""}, {"M.C", ""}, {"Head⟨( :+ )⟩", ""}, {"Head⟨( M.:+ )⟩", ""}, {"Head⟨( : )⟩", ""},
	{"1", ""}, {"0x1F", ""}, {"1.5", ""}, {"'a'", ""}, {`"a"`, ""}, {"Wild⟨_⟩", ""},
	{"Head⟨[ ]⟩", ""}, {"Head⟨( )⟩", ""}, {"Head⟨( , )⟩", ""}, {"Head⟨( , , )⟩", ""}, {"Head⟨( , , , , , )⟩", ""},
	// as, lazy
	{"As⟨x @ y⟩", "x y"}, {"As⟨x @ Wild⟨_⟩⟩", "x"}, {"As⟨x @ Head⟨( + )⟩⟩", "x +"}, {"As⟨x @ As⟨y @ z⟩⟩", "x y z"}, {"As⟨x @ Lazy⟨~ y⟩⟩", "x y"}, {"As⟨x @ Apply⟨C y⟩⟩", "x y"}, {"As⟨x @ Ops⟨y Oper⟨:⟩ z⟩⟩", "x y z"}, {"As⟨x @ Ops⟨Minus⟨-⟩ 1⟩⟩", "x"}, {"As⟨x @ Paren⟨( x )⟩⟩", "x x"},
	{"Lazy⟨~ x⟩", "x"}, {"Lazy⟨~ Lazy⟨~ x⟩⟩", "x"}, {"Lazy⟨~ As⟨x @ y⟩⟩", "x y"}, {"Lazy⟨~ Apply⟨C x⟩⟩", "x"}, {"Lazy⟨~ Ops⟨x Oper⟨:⟩ y⟩⟩", "x y"}, {"Lazy⟨~ C⟩", ""},
	// brackets
	{"Paren⟨( x )⟩", "x"}, {"Paren⟨( Paren⟨( x )⟩ )⟩", "x"}, {"Paren⟨( Apply⟨C x⟩ )⟩", "x"}, {"Paren⟨( Ops⟨x Oper⟨:⟩ y⟩ )⟩", "x y"}, {"Paren⟨( Head⟨( + )⟩ )⟩", "+"},
	{"Tuple⟨( x , y )⟩", "x y"}, {"Tuple⟨( y , x , y )⟩", "y x y"}, {"Tuple⟨( x , Head⟨( , )⟩ , 1 , Head⟨( + )⟩ , z )⟩", "x + z"}, {"Tuple⟨( Apply⟨C b a⟩ , Ops⟨d Oper⟨:⟩ c⟩ )⟩", "b a d c"}, {"Tuple⟨( Tuple⟨( x , y )⟩ , Tuple⟨( z , C )⟩ )⟩", "x y z"},
	{"List⟨[ x ]⟩", "x"}, {"List⟨[ x , y ]⟩", "x y"}, {"List⟨[ x , 1 , y , 2 , x ]⟩", "x y x"}, {"List⟨[ Apply⟨C x⟩ , Ops⟨y Oper⟨:⟩ z⟩ ]⟩", "x y z"}, {"List⟨[ List⟨[ x ]⟩ ]⟩", "x"}, {"List⟨[ Head⟨[ ]⟩ ]⟩", ""},
	// records
	{"Record⟨C { }⟩", ""}, {"Record⟨M.C { }⟩", ""}, {"Record⟨Head⟨( :+ )⟩ { }⟩", ""}, {"Record⟨Head⟨( M.:+ )⟩ { }⟩", ""}, {"Record⟨Head⟨( : )⟩ { }⟩", ""},
	{"Record⟨C { Field⟨f = x⟩ }⟩", "x"}, {"Record⟨C { Field⟨M.f = x⟩ }⟩", "x"}, {"Record⟨C { Field⟨f = f⟩ }⟩", "f"}, {"Record⟨C { Field⟨f = Head⟨( + )⟩⟩ }⟩", "+"}, {"Record⟨C { Field⟨f = x⟩ , Field⟨M.f = y⟩ }⟩", "x y"}, {"Record⟨C { Field⟨f = 1⟩ , Field⟨f = Wild⟨_⟩⟩ , Field⟨g = f⟩ , Field⟨h = y⟩ }⟩", "f y"}, {"Record⟨C { Field⟨f = Apply⟨C x⟩⟩ , Field⟨g = Ops⟨y Oper⟨:⟩ z⟩⟩ }⟩", "x y z"}, {"Record⟨Head⟨( : )⟩ { Field⟨f = Record⟨C { Field⟨g = x⟩ }⟩⟩ }⟩", "x"},
	// constructors with arguments
	{"Apply⟨C x⟩", "x"}, {"Apply⟨M.C x y⟩", "x y"}, {"Apply⟨Head⟨( : )⟩ x Head⟨( + )⟩⟩", "x +"}, {"Apply⟨Head⟨( :+ )⟩ y x⟩", "y x"}, {"Apply⟨Head⟨( M.:+ )⟩ 1 'a' C M.C⟩", ""},
	{"Apply⟨C Wild⟨_⟩ As⟨x @ y⟩ Lazy⟨~ z⟩ Head⟨[ ]⟩ Head⟨( )⟩ Paren⟨( Apply⟨C a⟩ )⟩ Tuple⟨( b , c )⟩ List⟨[ d ]⟩ Record⟨C { Field⟨f = e⟩ }⟩⟩", "x y z a b c d e"},
	{"Apply⟨C Paren⟨( Ops⟨x Oper⟨:⟩ y⟩ )⟩⟩", "x y"}, {"Apply⟨C Record⟨C { }⟩⟩", ""}, {"Apply⟨C As⟨x @ Apply⟨C y⟩⟩ Lazy⟨~ Ops⟨z Oper⟨:⟩ a⟩⟩⟩", "x y z a"},
	// rows
	{"Ops⟨x Oper⟨:⟩ y⟩", "x y"}, {"Ops⟨x Oper⟨:+⟩ y⟩", "x y"}, {"Ops⟨x Oper⟨M.:+⟩ y⟩", "x y"}, {"Ops⟨x Oper⟨` C `⟩ y⟩", "x y"}, {"Ops⟨x Oper⟨` M.C `⟩ y⟩", "x y"}, {"Ops⟨x Oper⟨:⟩ y Oper⟨` C `⟩ x Oper⟨:+⟩ z⟩", "x y x z"},
	{"Ops⟨Apply⟨C x⟩ Oper⟨:⟩ y⟩", "x y"}, {"Ops⟨x Oper⟨:⟩ Apply⟨C y z⟩⟩", "x y z"}, {"Ops⟨Apply⟨C x⟩ Oper⟨:⟩ Apply⟨C y⟩ Oper⟨:⟩ Head⟨[ ]⟩⟩", "x y"}, {"Ops⟨Paren⟨( Ops⟨x Oper⟨:⟩ y⟩ )⟩ Oper⟨:⟩ As⟨z @ Ops⟨x Oper⟨:⟩ y⟩⟩⟩", "x y z x y"},
	{"Ops⟨Minus⟨-⟩ 1⟩", ""}, {"Ops⟨Minus⟨-⟩ 1.5⟩", ""}, {"Ops⟨Minus⟨-⟩ 1 Oper⟨:⟩ x⟩", "x"}, {"Ops⟨x Oper⟨:⟩ Minus⟨-⟩ 1.5⟩", "x"}, {"Ops⟨x Oper⟨:⟩ Minus⟨-⟩ 1 Oper⟨:⟩ y⟩", "x y"}, {"Ops⟨Minus⟨-⟩ 1 Oper⟨:⟩ Minus⟨-⟩ 2⟩", ""}, {"Ops⟨1 Oper⟨:⟩ 2⟩", ""}, {"Ops⟨Head⟨( - )⟩ Oper⟨:⟩ 1⟩", "-"},
	// what a Minus has below it is not said
	{"Ops⟨Minus⟨⟩ 1⟩", ""}, {"Ops⟨Minus⟨x y⟩ 1⟩", ""}, {"Ops⟨x Oper⟨:⟩ Minus⟨+ Head⟨( + )⟩ Ops⟨y⟩⟩ 1.5⟩", "x"},
}

// functions has left-hand sides of functions, and the functions' names.
var functions = []struct{ s, name string }{
	{"Apply⟨f x⟩", "f"}, {"Apply⟨f x y z⟩", "f"}, {"Apply⟨Head⟨( + )⟩ x⟩", "+"}, {"Apply⟨Head⟨( - )⟩ x y⟩", "-"}, {"Apply⟨x x⟩", "x"}, {"Apply⟨Var·C x⟩", "C"},
	{"Apply⟨f C M.C 1 1.5 'a' \"a\" Wild⟨_⟩ Head⟨[ ]⟩ Head⟨( , )⟩ Head⟨( + )⟩ Head⟨( : )⟩ As⟨x @ Apply⟨C y⟩⟩ Lazy⟨~ z⟩ Paren⟨( Ops⟨x Oper⟨:⟩ y⟩ )⟩ Tuple⟨( x , y )⟩ List⟨[ x ]⟩ Record⟨C { }⟩⟩", "f"},
	{"Apply⟨f Paren⟨( Apply⟨C x⟩ )⟩⟩", "f"},
	// in parentheses, with more arguments
	{"Apply⟨Paren⟨( Apply⟨f x⟩ )⟩ y⟩", "f"}, {"Apply⟨Paren⟨( Apply⟨f x⟩ )⟩ y 1 Head⟨( + )⟩⟩", "f"}, {"Apply⟨Paren⟨( Apply⟨Paren⟨( Apply⟨Paren⟨( Apply⟨f x⟩ )⟩ y⟩ )⟩ z⟩ )⟩ a b⟩", "f"}, {"Apply⟨Paren⟨( Apply⟨Head⟨( + )⟩ x⟩ )⟩ y⟩", "+"},
	{"Apply⟨Paren⟨( Ops⟨x Oper⟨+⟩ y⟩ )⟩ z⟩", "+"}, {"Apply⟨Paren⟨( Ops⟨x Oper⟨` f `⟩ y⟩ )⟩ z a⟩", "f"}, {"Apply⟨Paren⟨( Apply⟨Paren⟨( Ops⟨x Oper⟨+⟩ y⟩ )⟩ z⟩ )⟩ a⟩", "+"}, {"Apply⟨Paren⟨( Ops⟨Apply⟨C x⟩ Oper⟨:⟩ y Oper⟨+⟩ Minus⟨-⟩ 1⟩ )⟩ z⟩", "+"},
	// operators
	{"Ops⟨x Oper⟨+⟩ y⟩", "+"}, {"Ops⟨x Oper⟨-⟩ y⟩", "-"}, {"Ops⟨x Oper⟨!⟩ y⟩", "!"}, {"Ops⟨x Oper⟨` f `⟩ y⟩", "f"}, {"Ops⟨x Oper⟨Op·:⟩ y⟩", ":"}, {"Ops⟨x Oper⟨` Var·C `⟩ y⟩", "C"},
	{"Ops⟨x Oper⟨:⟩ y Oper⟨+⟩ z⟩", "+"}, {"Ops⟨x Oper⟨+⟩ y Oper⟨:⟩ z⟩", "+"}, {"Ops⟨x Oper⟨:⟩ y Oper⟨` C `⟩ z Oper⟨` f `⟩ a Oper⟨:+⟩ b Oper⟨M.:+⟩ c⟩", "f"},
	{"Ops⟨Apply⟨C x⟩ Oper⟨+⟩ Apply⟨C y⟩⟩", "+"}, {"Ops⟨Apply⟨C x⟩ Oper⟨:⟩ y Oper⟨+⟩ Apply⟨M.C y z⟩⟩", "+"}, {"Ops⟨Minus⟨-⟩ 1 Oper⟨+⟩ x⟩", "+"}, {"Ops⟨x Oper⟨+⟩ Minus⟨-⟩ 1.5⟩", "+"}, {"Ops⟨Minus⟨-⟩ 1 Oper⟨-⟩ Minus⟨-⟩ 1⟩", "-"}, {"Ops⟨x Oper⟨:⟩ Minus⟨-⟩ 1 Oper⟨+⟩ Minus⟨-⟩ 1 Oper⟨:⟩ y⟩", "+"},
	{"Ops⟨1 Oper⟨+⟩ C⟩", "+"}, {"Ops⟨Paren⟨( Ops⟨x Oper⟨:⟩ y⟩ )⟩ Oper⟨+⟩ List⟨[ z ]⟩⟩", "+"}, {"Ops⟨As⟨x @ Ops⟨y Oper⟨:⟩ z⟩⟩ Oper⟨+⟩ Lazy⟨~ x⟩⟩", "+"}, {"Ops⟨Head⟨( + )⟩ Oper⟨+⟩ Wild⟨_⟩⟩", "+"},
}

// neither has what is nearly one of both.
var neither = []string{
	// tokens that are no patterns
	"M.x", "+", "-", ":", ":+", "M.+", "M.:+", "_", "@", "~", "=", "->", "..", "case", "(", ")", ",", "[", "]", "`", "{", "}", ";", "None·x", "Left·", "End·", "Op·x", "Word·x", "Mark·1", "Punct·C",
	// heads
	"Head⟨⟩", "Head⟨x⟩", "Head⟨( M.+ )⟩", "Head⟨( x )⟩", "Head⟨( C )⟩", "Head⟨( M.x )⟩", "Head⟨( 1 )⟩", "Head⟨( -> )⟩", "Head⟨( @ )⟩", "Head⟨( + +⟩", "Head⟨( + + )⟩", "Head⟨( : : )⟩", "Head⟨( + ]⟩", "Head⟨[ + )⟩", "Head⟨[ + ]⟩", "Head⟨[ : ]⟩", "Head⟨[ , ]⟩", "Head⟨( ]⟩", "Head⟨[ )⟩", "Head⟨] [⟩", "Head⟨) (⟩", "Head⟨(⟩", "Head⟨[⟩", "Head⟨)⟩", "Head⟨,⟩", "Head⟨( ,⟩", "Head⟨, )⟩", "Head⟨( , + )⟩", "Head⟨( + , )⟩", "Head⟨( , , x , )⟩", "Head⟨{ }⟩", "Head⟨Paren⟨( + )⟩⟩", "Head⟨( Oper⟨+⟩ )⟩", "Head⟨( Head⟨( + )⟩ )⟩", "Head⟨( Mark·+ )⟩", "Head⟨( Punct·: )⟩", "Head⟨( Word·: )⟩", "Head⟨Op·( + )⟩", "Head⟨( + Op·)⟩", "Head⟨( Mark·, )⟩", "Head⟨( ; )⟩", "Head⟨( + ) )⟩", "Head⟨( ( + )⟩",
	// wild cards, as and lazy
	"Wild⟨⟩", "Wild⟨x⟩", "Wild⟨_ _⟩", "Wild⟨Var·_⟩", "Wild⟨Mark·_⟩", "Wild⟨Wild⟨_⟩⟩", "Lambda⟨_⟩",
	"As⟨⟩", "As⟨x @⟩", "As⟨x y⟩", "As⟨@ y⟩", "As⟨y @ x x⟩", "As⟨@ x y⟩", "As⟨x y @⟩", "As⟨x ~ y⟩", "As⟨x = y⟩", "As⟨x Op·@ y⟩", "As⟨M.x @ y⟩", "As⟨C @ y⟩", "As⟨Head⟨( + )⟩ @ y⟩", "As⟨Paren⟨( x )⟩ @ y⟩", "As⟨Wild⟨_⟩ @ y⟩", "As⟨x @ M.y⟩", "As⟨x @ Apply⟨f y⟩⟩", "As⟨x @ Ops⟨x Oper⟨+⟩ y⟩⟩", "As⟨As⟨x @ y⟩ @ z⟩", "As⟨x @ y @ z⟩",
	"Lazy⟨⟩", "Lazy⟨~⟩", "Lazy⟨x⟩", "Lazy⟨x ~⟩", "Lazy⟨~ x y⟩", "Lazy⟨~ ~ x⟩", "Lazy⟨@ x⟩", "Lazy⟨Op·~ x⟩", "Lazy⟨~ M.x⟩", "Lazy⟨~ Apply⟨f x⟩⟩", "Strict⟨! x⟩", "Lazy⟨! x⟩",
	// brackets
	"Paren⟨⟩", "Paren⟨x⟩", "Paren⟨( )⟩", "Paren⟨(⟩", "Paren⟨( x⟩", "Paren⟨x )⟩", "Paren⟨) x (⟩", "Paren⟨[ x ]⟩", "Paren⟨( x ]⟩", "Paren⟨{ x }⟩", "Paren⟨( x y )⟩", "Paren⟨( x , y )⟩", "Paren⟨( x , )⟩", "Paren⟨( , x )⟩", "Paren⟨( , )⟩", "Paren⟨( M.x )⟩", "Paren⟨( Ops⟨x⟩ )⟩", "Paren⟨( Apply⟨f x⟩ )⟩", "Paren⟨( Ops⟨x Oper⟨+⟩ y⟩ )⟩", "Paren⟨( Minus⟨-⟩ 1 )⟩", "Paren⟨( Typed⟨x :: C⟩ )⟩", "Paren⟨Op·( x )⟩", "Paren⟨( x Op·)⟩",
	"Tuple⟨⟩", "Tuple⟨( )⟩", "Tuple⟨( x )⟩", "Tuple⟨( x , )⟩", "Tuple⟨( , x )⟩", "Tuple⟨( , )⟩", "Tuple⟨( , x , )⟩", "Tuple⟨( x , y , )⟩", "Tuple⟨( , x , y )⟩", "Tuple⟨( x , , y )⟩", "Tuple⟨( x y )⟩", "Tuple⟨( x y z )⟩", "Tuple⟨( x , y z )⟩", "Tuple⟨( x y , z )⟩", "Tuple⟨x , y⟩", "Tuple⟨( x , y⟩", "Tuple⟨x , y )⟩", "Tuple⟨[ x , y ]⟩", "Tuple⟨( x , y ]⟩", "Tuple⟨( x ; y )⟩", "Tuple⟨( x , M.y )⟩", "Tuple⟨( M.x , y )⟩", "Tuple⟨( x , Apply⟨f y⟩ )⟩", "Tuple⟨( Ops⟨x⟩ , y )⟩", "Tuple⟨( x Op·, y )⟩", "Tuple⟨( x , y , M.z )⟩",
	"List⟨⟩", "List⟨[ ]⟩", "List⟨[⟩", "List⟨[ x⟩", "List⟨x ]⟩", "List⟨[ x , ]⟩", "List⟨[ , x ]⟩", "List⟨[ , ]⟩", "List⟨[ x , , y ]⟩", "List⟨[ x y ]⟩", "List⟨[ x y z ]⟩", "List⟨( x )⟩", "List⟨( x , y )⟩", "List⟨[ x )⟩", "List⟨[ M.x ]⟩", "List⟨[ x , M.y ]⟩", "List⟨[ Apply⟨f x⟩ ]⟩", "Range⟨[ 1 .. ]⟩", "List⟨[ 1 .. ]⟩", "List⟨[ 1 .. 2 ]⟩", "Comp⟨[ x | y ]⟩", "List⟨[ x | y ]⟩",
	// records
	"Record⟨⟩", "Record⟨C⟩", "Record⟨{ }⟩", "Record⟨C {⟩", "Record⟨C }⟩", "Record⟨C } {⟩", "Record⟨C ( )⟩", "Record⟨C { , }⟩", "Record⟨C { } }⟩", "Record⟨C { { }⟩", "Record⟨C C { }⟩", "Record⟨x { }⟩", "Record⟨M.x { }⟩", "Record⟨Head⟨( + )⟩ { }⟩", "Record⟨Head⟨( )⟩ { }⟩", "Record⟨Paren⟨( C )⟩ { }⟩", "Record⟨Apply⟨C x⟩ { }⟩", "Record⟨Record⟨C { }⟩ { }⟩", "Record⟨1 { }⟩", "Record⟨{ } C⟩",
	"Record⟨C { Field⟨f = x⟩⟩", "Record⟨C Field⟨f = x⟩ }⟩", "Record⟨C Field⟨f = x⟩⟩", "Record⟨C { Field⟨f = x⟩ , }⟩", "Record⟨C { , Field⟨f = x⟩ }⟩", "Record⟨C { Field⟨f = x⟩ , , Field⟨f = x⟩ }⟩", "Record⟨C { Field⟨f = x⟩ Field⟨f = x⟩ }⟩", "Record⟨C { Field⟨f = x⟩ ; Field⟨f = x⟩ }⟩", "Record⟨C { x }⟩", "Record⟨C { f = x }⟩", "Record⟨C { Field⟨f = x⟩ , x }⟩", "Record⟨x { Field⟨f = x⟩ }⟩", "Record⟨C { Field⟨f = x⟩ , Field⟨f = M.x⟩ }⟩",
	"Record⟨C { Field⟨⟩ }⟩", "Record⟨C { Field⟨f⟩ }⟩", "Record⟨C { Field⟨f =⟩ }⟩", "Record⟨C { Field⟨f x⟩ }⟩", "Record⟨C { Field⟨= x⟩ }⟩", "Record⟨C { Field⟨f = x y⟩ }⟩", "Record⟨C { Field⟨f = x = y⟩ }⟩", "Record⟨C { Field⟨x f =⟩ }⟩", "Record⟨C { Field⟨C = x⟩ }⟩", "Record⟨C { Field⟨M.C = x⟩ }⟩", "Record⟨C { Field⟨Head⟨( + )⟩ = x⟩ }⟩", "Record⟨C { Field⟨1 = x⟩ }⟩", "Record⟨C { Field⟨f @ x⟩ }⟩", "Record⟨C { Field⟨f Op·= x⟩ }⟩", "Record⟨C { Field⟨f = M.x⟩ }⟩", "Record⟨C { Field⟨f = Apply⟨f x⟩⟩ }⟩", "Record⟨C { Field⟨f = Ops⟨x⟩⟩ }⟩", "Record⟨C { As⟨f @ x⟩ }⟩", "Field⟨f = x⟩", "Field⟨f x⟩",
	// what is applied
	"Apply⟨⟩", "Apply⟨C⟩", "Apply⟨f⟩", "Apply⟨M.x y⟩", "Apply⟨1 x⟩", "Apply⟨Wild⟨_⟩ x⟩", "Apply⟨Head⟨( )⟩ x⟩", "Apply⟨Head⟨( , )⟩ x y⟩", "Apply⟨Head⟨[ ]⟩ x⟩", "Apply⟨Head⟨( M.+ )⟩ x⟩", "Apply⟨Paren⟨( C )⟩ x⟩", "Apply⟨Paren⟨( Apply⟨C x⟩ )⟩ y⟩", "Apply⟨Record⟨C { }⟩ x⟩", "Apply⟨: x⟩", "Apply⟨Oper⟨:⟩ x⟩", "Apply⟨+ x⟩", "Apply⟨Oper⟨+⟩ x⟩", "Apply⟨Lazy⟨~ x⟩ y⟩", "Apply⟨As⟨x @ y⟩ z⟩",
	"Apply⟨C M.x⟩", "Apply⟨C x M.y⟩", "Apply⟨C Apply⟨C x⟩⟩", "Apply⟨C x Apply⟨C x⟩ y⟩", "Apply⟨C Ops⟨x Oper⟨:⟩ y⟩⟩", "Apply⟨C Ops⟨Minus⟨-⟩ 1⟩⟩", "Apply⟨C Minus⟨-⟩ 1⟩", "Apply⟨C Minus⟨-⟩⟩", "Apply⟨Apply⟨C x⟩ y⟩", "Apply⟨Ops⟨x Oper⟨:⟩ y⟩ z⟩", "Apply⟨C Oper⟨:⟩ x⟩", "Apply⟨C : x⟩", "Apply⟨C Paren⟨( Apply⟨f x⟩ )⟩⟩", "Apply⟨C Ops⟨x⟩⟩", "Apply⟨C Apply⟨C⟩⟩", "TApply⟨C x⟩",
	// rows
	"Ops⟨⟩", "Ops⟨x⟩", "Ops⟨C⟩", "Ops⟨1⟩", "Ops⟨Minus⟨-⟩⟩", "Ops⟨Oper⟨:⟩⟩", "Ops⟨Ops⟨x Oper⟨:⟩ y⟩⟩", "Ops⟨Apply⟨C x⟩⟩", "Ops⟨x y⟩", "Ops⟨x Oper⟨:⟩⟩", "Ops⟨Oper⟨:⟩ x⟩", "Ops⟨Oper⟨:⟩ Oper⟨:⟩⟩", "Ops⟨x Oper⟨:⟩ Oper⟨:⟩ y⟩", "Ops⟨x Oper⟨:⟩ y Oper⟨:⟩⟩", "Ops⟨Oper⟨:⟩ x Oper⟨:⟩ y⟩", "Ops⟨x Oper⟨:⟩ y z⟩", "Ops⟨x y Oper⟨:⟩ z⟩", "Ops⟨x : y⟩", "Ops⟨x ` C ` y⟩",
	"Ops⟨x Oper⟨:⟩ M.y⟩", "Ops⟨M.x Oper⟨:⟩ y⟩", "Ops⟨x Oper⟨:⟩ Apply⟨f y⟩⟩", "Ops⟨x Oper⟨:⟩ Ops⟨y Oper⟨:⟩ z⟩⟩", "Ops⟨Ops⟨x Oper⟨:⟩ y⟩ Oper⟨:⟩ z⟩", "Ops⟨x Oper⟨:⟩ Ops⟨Minus⟨-⟩ 1⟩⟩", "Ops⟨Ops⟨Minus⟨-⟩ 1⟩ Oper⟨:⟩ x⟩", "Ops⟨x Oper⟨:⟩ Paren⟨( Ops⟨y Oper⟨+⟩ z⟩ )⟩⟩", "Infix⟨x Oper⟨:⟩ y⟩", "LeftSec⟨( x Oper⟨:⟩ )⟩", "RightSec⟨( Oper⟨:⟩ x )⟩",
	"Ops⟨Minus⟨-⟩ x⟩", "Ops⟨Minus⟨-⟩ 'a'⟩", "Ops⟨Minus⟨-⟩ C⟩", "Ops⟨Minus⟨-⟩ Minus⟨-⟩ 1⟩", "Ops⟨Minus⟨-⟩ Minus⟨-⟩⟩", "Ops⟨Minus⟨-⟩ Paren⟨( 1 )⟩⟩", "Ops⟨Minus⟨-⟩ Oper⟨:⟩ 1⟩", "Ops⟨Minus⟨-⟩ 1 1⟩", "Ops⟨1 Minus⟨-⟩⟩", "Ops⟨1 Minus⟨-⟩ 1⟩", "Ops⟨x Oper⟨:⟩ Minus⟨-⟩⟩", "Ops⟨x Oper⟨:⟩ Minus⟨-⟩ y⟩", "Ops⟨x Oper⟨:⟩ Minus⟨-⟩ Oper⟨:⟩ y⟩", "Ops⟨Minus⟨-⟩ 1 Oper⟨:⟩⟩", "Ops⟨Minus⟨-⟩ Oper⟨:⟩ y⟩", "Ops⟨- 1⟩", "Ops⟨Oper⟨-⟩ 1⟩", "Ops⟨Minus⟨-⟩ Apply⟨1 x⟩⟩", "Ops⟨Minus⟨-⟩ Ops⟨Minus⟨-⟩ 1⟩⟩", "Minus⟨-⟩", "Minus⟨- 1⟩", "Negate⟨- 1⟩",
	// operators
	"Oper⟨:⟩", "Oper⟨+⟩", "Oper⟨` C `⟩", "Oper⟨` f `⟩", "Ops⟨x Oper⟨⟩ y⟩", "Ops⟨x Oper⟨: :⟩ y⟩", "Ops⟨x Oper⟨C⟩ y⟩", "Ops⟨x Oper⟨x⟩ y⟩", "Ops⟨x Oper⟨M.+⟩ y⟩", "Ops⟨x Oper⟨->⟩ y⟩", "Ops⟨x Oper⟨Mark·+⟩ y⟩", "Ops⟨x Oper⟨Punct·:⟩ y⟩", "Ops⟨x Oper⟨Oper⟨:⟩⟩ y⟩", "Ops⟨x Oper⟨Oper⟨+⟩⟩ y⟩", "Ops⟨x Oper⟨Head⟨( : )⟩⟩ y⟩", "Ops⟨x Head⟨( : )⟩ y⟩",
	"Ops⟨x Oper⟨` `⟩ y⟩", "Ops⟨x Oper⟨`⟩ y⟩", "Ops⟨x Oper⟨` C⟩ y⟩", "Ops⟨x Oper⟨C `⟩ y⟩", "Ops⟨x Oper⟨C C C⟩ y⟩", "Ops⟨x Oper⟨` C C `⟩ y⟩", "Ops⟨x Oper⟨` x x `⟩ y⟩", "Ops⟨x Oper⟨` M.x `⟩ y⟩", "Ops⟨x Oper⟨` : `⟩ y⟩", "Ops⟨x Oper⟨` :+ `⟩ y⟩", "Ops⟨x Oper⟨` + `⟩ y⟩", "Ops⟨x Oper⟨` 1 `⟩ y⟩", "Ops⟨x Oper⟨` Head⟨( + )⟩ `⟩ y⟩", "Ops⟨x Oper⟨` Head⟨( : )⟩ `⟩ y⟩", "Ops⟨x Oper⟨( C )⟩ y⟩", "Ops⟨x Oper⟨( x )⟩ y⟩", "Ops⟨x Oper⟨` C ,⟩ y⟩", "Ops⟨x Oper⟨, x `⟩ y⟩", "Ops⟨x Oper⟨Op·` C `⟩ y⟩", "Ops⟨x Oper⟨` x Op·`⟩ y⟩", "Ops⟨x Oper⟨` x ` `⟩ y⟩", "Ops⟨x Oper⟨` C ` `⟩ y⟩",
	// nearly the left-hand side of a function
	"Apply⟨f M.x⟩", "Apply⟨f x M.y⟩", "Apply⟨f Apply⟨C x⟩⟩", "Apply⟨f x Apply⟨C x⟩ y⟩", "Apply⟨f Ops⟨x Oper⟨:⟩ y⟩⟩", "Apply⟨f Ops⟨Minus⟨-⟩ 1⟩⟩", "Apply⟨f Minus⟨-⟩ 1⟩", "Apply⟨f Paren⟨( Apply⟨f x⟩ )⟩⟩", "Apply⟨f Apply⟨f x⟩⟩", "Apply⟨f Oper⟨+⟩ x⟩", "Apply⟨Apply⟨f x⟩ y⟩", "Apply⟨Ops⟨x Oper⟨+⟩ y⟩ z⟩",
	"Apply⟨Paren⟨( f )⟩ x⟩", "Apply⟨Paren⟨( Head⟨( + )⟩ )⟩ x⟩", "Apply⟨Paren⟨( Paren⟨( Apply⟨f x⟩ )⟩ )⟩ y⟩", "Paren⟨( Paren⟨( Apply⟨f x⟩ )⟩ )⟩", "Apply⟨Paren⟨( Apply⟨f x⟩ )⟩⟩", "Apply⟨Paren⟨( Ops⟨x Oper⟨+⟩ y⟩ )⟩⟩", "Apply⟨Paren⟨( Apply⟨f⟩ )⟩ x⟩", "Apply⟨Paren⟨( Apply⟨f x⟩ )⟩ M.y⟩", "Apply⟨Paren⟨( Apply⟨f x⟩ )⟩ Apply⟨C y⟩⟩", "Apply⟨Paren⟨( Apply⟨f x⟩ )⟩ y Ops⟨x Oper⟨:⟩ y⟩⟩", "Apply⟨Paren⟨( Apply⟨f M.x⟩ )⟩ y⟩", "Apply⟨Paren⟨( Apply⟨f Apply⟨C x⟩⟩ )⟩ y⟩", "Apply⟨Paren⟨( Ops⟨x Oper⟨:⟩ y⟩ )⟩ z⟩", "Apply⟨Paren⟨( Ops⟨x Oper⟨+⟩ y Oper⟨+⟩ z⟩ )⟩ z⟩",
	"Apply⟨Paren⟨Apply⟨f x⟩⟩ y⟩", "Apply⟨Paren⟨⟩ y⟩", "Apply⟨Paren⟨( )⟩ y⟩", "Apply⟨Paren⟨( Apply⟨f x⟩⟩ y⟩", "Apply⟨Paren⟨Apply⟨f x⟩ )⟩ y⟩", "Apply⟨Paren⟨[ Apply⟨f x⟩ ]⟩ y⟩", "Apply⟨Paren⟨( Apply⟨f x⟩ ]⟩ y⟩", "Apply⟨Paren⟨( Apply⟨f x⟩ y )⟩ y⟩", "Apply⟨Paren⟨( Apply⟨f x⟩ , Apply⟨f x⟩ )⟩ y⟩", "Apply⟨Tuple⟨( Apply⟨f x⟩ )⟩ y⟩", "Apply⟨List⟨[ Apply⟨f x⟩ ]⟩ y⟩", "Apply⟨Head⟨( Apply⟨f x⟩ )⟩ y⟩", "Apply⟨Paren⟨( Apply⟨f x⟩ )⟩ Paren⟨( Apply⟨f x⟩ )⟩⟩", "Apply⟨Lazy⟨~ Apply⟨f x⟩⟩ y⟩", "TApply⟨f x⟩", "Infix⟨x Oper⟨+⟩ y⟩",
	"Ops⟨Oper⟨+⟩⟩", "Ops⟨Oper⟨+⟩ x⟩", "Ops⟨x Oper⟨+⟩⟩", "Ops⟨Oper⟨` f `⟩ x⟩", "Ops⟨x Oper⟨` f `⟩⟩", "Ops⟨x Oper⟨+⟩ y Oper⟨+⟩ z⟩", "Ops⟨x Oper⟨+⟩ y Oper⟨` f `⟩ z⟩", "Ops⟨x Oper⟨:⟩ y Oper⟨+⟩ z Oper⟨-⟩ a⟩", "Ops⟨x Oper⟨+⟩ Oper⟨-⟩ y⟩", "Ops⟨x Oper⟨+⟩ Oper⟨+⟩⟩", "Ops⟨Oper⟨+⟩ Oper⟨+⟩ x⟩", "Ops⟨Oper⟨+⟩ x Oper⟨+⟩ y⟩", "Ops⟨x Oper⟨+⟩ y Oper⟨+⟩⟩", "Ops⟨x Oper⟨:⟩ Oper⟨+⟩ y⟩", "Ops⟨x Oper⟨+⟩ Oper⟨:⟩ y⟩", "Ops⟨Oper⟨:⟩ Oper⟨+⟩ y⟩", "Ops⟨x Oper⟨+⟩ y Oper⟨:⟩⟩", "Ops⟨Oper⟨:⟩ x Oper⟨+⟩ y⟩", "Ops⟨x y Oper⟨+⟩ z⟩", "Ops⟨x Oper⟨+⟩ y z⟩",
	"Ops⟨x Oper⟨+⟩ M.y⟩", "Ops⟨M.x Oper⟨+⟩ y⟩", "Ops⟨Apply⟨f x⟩ Oper⟨+⟩ y⟩", "Ops⟨x Oper⟨+⟩ Apply⟨f y⟩⟩", "Ops⟨x Oper⟨+⟩ Ops⟨y Oper⟨:⟩ z⟩⟩", "Ops⟨Ops⟨x Oper⟨:⟩ y⟩ Oper⟨+⟩ z⟩", "Ops⟨Ops⟨Minus⟨-⟩ 1⟩ Oper⟨+⟩ z⟩", "Ops⟨x Oper⟨+⟩ Ops⟨y⟩⟩", "Ops⟨Paren⟨( Apply⟨f x⟩ )⟩ Oper⟨+⟩ y⟩", "Ops⟨Minus⟨-⟩ Oper⟨+⟩ x⟩", "Ops⟨x Oper⟨+⟩ Minus⟨-⟩⟩", "Ops⟨Minus⟨-⟩ x Oper⟨+⟩ y⟩", "Ops⟨x Oper⟨+⟩ Minus⟨-⟩ y⟩", "Ops⟨Minus⟨-⟩ Minus⟨-⟩ 1 Oper⟨+⟩ x⟩", "Ops⟨1 Minus⟨-⟩ Oper⟨+⟩ x⟩", "Ops⟨x + y⟩", "Ops⟨x ` f ` y⟩", "Ops⟨x Oper⟨M.+⟩ y Oper⟨+⟩ z⟩", "Ops⟨x Oper⟨+⟩ y Oper⟨M.+⟩ z⟩",
	// other kinds
	"NoNode⟨⟩", "NoNode⟨x⟩", "Block⟨x⟩", "Block⟨⟩", "Lambda⟨⟩", "Lambda⟨\\ x -> x⟩", "Do⟨do Block⟨x⟩⟩", "Strict⟨x⟩", "Typed⟨x :: C⟩",
}

// shells has what may stand around a pattern, with ? in its place.
var shells = []string{
	"Paren⟨( ? )⟩", "Tuple⟨( 1 , ? )⟩", "Tuple⟨( ? , 1 , C )⟩", "List⟨[ ? ]⟩", "List⟨[ C , ? , 1 ]⟩", "Lazy⟨~ ?⟩", "Record⟨C { Field⟨f = ?⟩ }⟩", "Record⟨C { Field⟨f = 1⟩ , Field⟨M.f = ?⟩ }⟩", "Apply⟨C Paren⟨( ? )⟩⟩", "Apply⟨C 1 List⟨[ 1 , ? ]⟩ 2⟩", "Ops⟨1 Oper⟨:⟩ Paren⟨( ? )⟩⟩", "Ops⟨List⟨[ ? ]⟩ Oper⟨` C `⟩ 1 Oper⟨:+⟩ 2⟩", "Lazy⟨~ Paren⟨( Apply⟨C Tuple⟨( Head⟨( )⟩ , Lazy⟨~ List⟨[ ? ]⟩⟩ )⟩⟩ )⟩⟩",
}

func TestPatterns(t *testing.T) {
	for _, x := range patterns {
		check(t, tree(x.s), asPattern(strings.Fields(x.names)...))
		for _, around := range shells {
			check(t, tree(strings.Replace(around, "?", x.s, 1)), asPattern(strings.Fields(x.names)...))
		}
		check(t, tree("As⟨a @ "+x.s+"⟩"), asPattern(append([]string{"a"}, strings.Fields(x.names)...)...))
	}
}

func TestFunctions(t *testing.T) {
	for _, x := range functions {
		check(t, tree(x.s), asFunction(x.name))
		check(t, tree("Apply⟨Paren⟨( "+x.s+" )⟩ C⟩"), asFunction(x.name))
		check(t, tree("Apply⟨Paren⟨( "+x.s+" )⟩ Wild⟨_⟩ Paren⟨( Apply⟨C y⟩ )⟩⟩"), asFunction(x.name))
		check(t, tree("Apply⟨"+x.s+" C⟩"), answer{})
		check(t, tree("Paren⟨( "+x.s+" )⟩"), answer{})
		check(t, tree("Ops⟨x Oper⟨:⟩ "+x.s+"⟩"), answer{})
		for _, around := range shells {
			check(t, tree(strings.Replace(around, "?", x.s, 1)), answer{})
		}
	}
}

func TestNeither(t *testing.T) {
	for _, s := range neither {
		check(t, tree(s), answer{})
		for _, around := range shells {
			n := tree(strings.Replace(around, "?", s, 1))
			check(t, n, answer{})
		}
		check(t, tree("As⟨a @ "+s+"⟩"), answer{})
	}
}

// TestParts has each pattern where only some may stand: as an argument, as an operand, on a side of an operator.
func TestParts(t *testing.T) {
	for _, x := range patterns {
		names := strings.Fields(x.names)
		isOps := strings.HasPrefix(x.s, "Ops⟨")
		isApply := strings.HasPrefix(x.s, "Apply⟨")
		hold := func(around string, ok bool, want answer) {
			t.Helper()
			if !ok {
				want = answer{}
			}
			check(t, tree(strings.Replace(around, "?", x.s, 1)), want)
		}
		for _, first := range []string{"C", "M.C", "Head⟨( : )⟩"} {
			hold("Apply⟨"+first+" ?⟩", !isOps && !isApply, asPattern(names...))
			hold("Apply⟨"+first+" 1 ? C⟩", !isOps && !isApply, asPattern(names...))
		}
		for _, first := range []string{"f", "Paren⟨( Apply⟨f a⟩ )⟩", "Paren⟨( Ops⟨a Oper⟨` f `⟩ b⟩ )⟩"} {
			hold("Apply⟨"+first+" ?⟩", !isOps && !isApply, asFunction("f"))
			hold("Apply⟨"+first+" 1 ? C⟩", !isOps && !isApply, asFunction("f"))
		}
		for _, around := range []string{"Ops⟨? Oper⟨:⟩ 1⟩", "Ops⟨1 Oper⟨` C `⟩ ?⟩", "Ops⟨Minus⟨-⟩ 1 Oper⟨:+⟩ ? Oper⟨M.:+⟩ C⟩"} {
			hold(around, !isOps, asPattern(names...))
		}
		for _, around := range []string{"Ops⟨? Oper⟨+⟩ 1⟩", "Ops⟨1 Oper⟨+⟩ ?⟩", "Ops⟨a Oper⟨:⟩ ? Oper⟨+⟩ b⟩", "Ops⟨Minus⟨-⟩ 1 Oper⟨+⟩ ? Oper⟨:⟩ C⟩"} {
			hold(around, !isOps, asFunction("+"))
		}
	}
}

// TestRows has each row on either side of an operator.
func TestRows(t *testing.T) {
	for _, x := range patterns {
		row, ok := strings.CutPrefix(x.s, "Ops⟨")
		if !ok {
			continue
		}
		row = strings.TrimSuffix(row, "⟩")
		names := strings.Fields(x.names)
		check(t, tree("Ops⟨"+row+" Oper⟨+⟩ x⟩"), asFunction("+"))
		check(t, tree("Ops⟨x Oper⟨` f `⟩ "+row+"⟩"), asFunction("f"))
		check(t, tree("Ops⟨"+row+" Oper⟨` f `⟩ "+row+"⟩"), asFunction("f"))
		check(t, tree("Ops⟨"+row+" Oper⟨:⟩ "+row+"⟩"), asPattern(slices.Concat(names, names)...))
		check(t, tree("Ops⟨"+row+" Oper⟨M.+⟩ "+row+"⟩"), answer{})
		check(t, tree("Ops⟨"+row+" "+row+"⟩"), answer{})
	}
}

// TestExamples has the chapter's examples.
func TestExamples(t *testing.T) {
	check(t, tree("Paren⟨( Ops⟨x Oper⟨:⟩ xs⟩ )⟩"), asPattern("x", "xs"))
	check(t, tree("Ops⟨x Oper⟨:⟩ xs⟩"), asPattern("x", "xs"))
	check(t, tree("Paren⟨( Ops⟨x Oper⟨+⟩ y⟩ )⟩"), answer{})
	check(t, tree("Ops⟨x Oper⟨+⟩ y⟩"), asFunction("+"))
	check(t, tree("Apply⟨Just Paren⟨( M.x )⟩⟩"), answer{})
	check(t, tree("Apply⟨f x Paren⟨( Apply⟨Just y⟩ )⟩⟩"), asFunction("f"))
	check(t, tree("Apply⟨Paren⟨( Apply⟨f x⟩ )⟩ y⟩"), asFunction("f"))
	check(t, tree("As⟨x @ Tuple⟨( a , Wild⟨_⟩ )⟩⟩"), asPattern("x", "a"))
}

// TestNumbers has the numbers that the kinds of left-hand sides have.
func TestNumbers(t *testing.T) {
	if None != 0 || Function != 1 || Pattern != 2 {
		t.Errorf("M2: the kinds are %d, %d and %d", None, Function, Pattern)
	}
}
