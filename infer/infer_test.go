package infer_test

import (
	"strings"
	"testing"

	"scriptor/api"
	"scriptor/infer"
	"scriptor/parse"
)

// P13.1: the type of each kind of expression.
func TestExpressions(t *testing.T) {
	for src, want := range map[string]string{
		"1":                                 "int",
		"-1.5":                              "float",
		`"a"`:                               "string",
		"()":                                "unit",
		"+":                                 "(-> int (-> int int))",
		"True":                              "bool",
		"Match":                             "exn",
		`(Fail "a")`:                        "exn",
		"Nil":                               "(list 'a)",
		"(Cons 1 Nil)":                      "(list int)",
		"(Some (Some ()))":                  "(o (o unit))",
		"(Two 1 nan)":                       "(two int float)",
		"(Swapped 1 nan)":                   "(two float int)",
		"(Two None Nil)":                    "(two (o 'a) (list 'b))",
		"(fn (x) x)":                        "(-> 'a 'a)",
		"(fn (x y z) y)":                    "(-> 'a (-> 'b (-> 'c 'b)))",
		"(fn (_ x _) x)":                    "(-> 'a (-> 'b (-> 'c 'b)))",
		"(fn (x x) x)":                      "(-> 'a (-> 'b 'b))",
		"(fn (x) (fn (x) x))":               "(-> 'a (-> 'b 'b))",
		"(fn (x) (+ x 1))":                  "(-> int int)",
		"(fn (f x) (f x))":                  "(-> (-> 'a 'b) (-> 'a 'b))",
		"(fn (f x) (f (f x)))":              "(-> (-> 'a 'a) (-> 'a 'a))",
		"(fn (x y z) (x z (y z)))":          "(-> (-> 'a (-> 'b 'c)) (-> (-> 'a 'b) (-> 'a 'c)))",
		"(+ 1)":                             "(-> int int)",
		"(+ 1 2)":                           "int",
		"((fn (x) x) neg)":                  "(-> int int)",
		"((fn (x y) x) 1 \"\")":             "int",
		"(let x 1 x)":                       "int",
		"(let x 1 (let x \"\" x))":          "string",
		"(let _ 1 2.5)":                     "float",
		"(rec f (fn (x) (f x)) f)":          "(-> 'a 'b)",
		"(rec f (fn (x) (f 1)) f)":          "(-> int 'a)",
		"(rec f (fn (x y) (f y x)) f)":      "(-> 'a (-> 'a 'b))",
		"(rec f (fn (f) f) f)":              "(-> 'a 'a)",
		"(rec f (fn (x) 1) (f (f 2)))":      "int",
		"(if True 1 2)":                     "int",
		"(fn (x y z) (if x y z))":           "(-> bool (-> 'a (-> 'a 'a)))",
		"(seq 1 \"\" ())":                   "unit",
		"(seq Nil)":                         "(list 'a)",
		"(tuple 1 \"\")":                    "(tuple int string)",
		"(tuple Nil Nil 1 2 3 4 5 None)":    "(tuple (list 'a) (list 'b) int int int int int (o 'c))",
		"(case 1 (2 \"\") (_ \"a\"))":       "string",
		"(case 1 (x x))":                    "int",
		"(fn (l) (case l (Nil 1)))":         "(-> (list 'a) int)",
		"(fn (x) (case x (_ x)))":           "(-> 'a 'a)",
		"(fn (x) (case x (y y)))":           "(-> 'a 'a)",
		"(fn (x) (case x (() 1)))":          "(-> unit int)",
		"(fn (x) (case x (\"\" 1)))":        "(-> string int)",
		"(fn (x) (case x ((tuple y 1) y)))": "(-> (tuple 'a int) 'a)",
		"(fn (x) (case x ((Two y (Cons z _)) (tuple z y)) ((Swapped _ y) (raise Abort))))": "(-> (two 'a (list 'b)) (tuple 'b 'a))",
		"(fn (x) (case x (True 1) (False 2)))":                                             "(-> bool int)",
		"(fn (x) (case 1 (1 x) (2 Div)))":                                                  "(-> exn exn)",
		"(try 1 (Div 2))":                                                                  "int",
		"(fn (x) (try x (Div 2) ((Fail s) (len s)) (e (raise e)) (_ 3)))":                  "(-> int int)",
		"(raise Div)":                    "'a",
		"(fn (x) (raise x))":             "(-> exn 'a)",
		"(raise (raise Div))":            "'a",
		"(transact 1)":                   "int",
		"(fn (x) (transact (load x)))":   "(-> (pref 'a) 'a)",
		"(fn (x) (transact x))":          "(-> 'a 'a)",
		"(tuple (raise Div) (fn (x) x))": "(tuple 'a (-> 'b 'b))",
	} {
		typed(t, lists+"(do "+src+")", want)
		typed(t, lists+"(def x "+src+")", "x: "+want)
		typed(t, lists+"(do (fn (_) "+src+"))", "(-> 'a "+shifted(want)+")")
	}
}

// shifted: a shown type behind one variable more.
func shifted(s string) string {
	return strings.NewReplacer("'a", "'b", "'b", "'c", "'c", "'d").Replace(s)
}

// P13.1: the document's own examples, and what a whole program's nodes are.
func TestPrograms(t *testing.T) {
	typed(t, "")
	typed(t, lists)
	typed(t, "(def id (fn (x) x))", "id: (-> 'a 'a)")
	typed(t, "(def r (ref 1))", "r: (ref int)")
	typed(t, "(rec f (fn (x) (f x)))", "f: (-> 'a 'b)")
	marked(t, api.ErrType, `(do (+ 1 ^"a"))`)
	typed(t, "(def x (ref (fn (y) y))) (do (seq (set x (fn (z) (+ z 1))) 1))", "x: (ref (-> int int))", "int")
	typed(t, "(do 1) (def x 2) (do 2.5)", "int", "x: int", "float")
	typed(t, lists+"(root r (list int) Nil) (def s r) (do (load s)) (rec f (fn (x) (seq (Cons x (load r)) (f x)))) (data t () (T))",
		"r: (pref (list int))", "s: (pref (list int))", "(list int)", "f: (-> int 'a)")
	typed(t, lists+"(rec map (fn (f l) (case l (Nil Nil) ((Cons h t) (Cons (f h) (map f t)))))) (do (map itoa (Cons 1 Nil))) (do (map itof))",
		"map: (-> (-> 'a 'b) (-> (list 'a) (list 'b)))", "(list string)", "(-> (list int) (list float))")
	// A later one of the same name counts, from there on.
	typed(t, "(def f 1) (do f) (def f (tuple f f)) (do f)", "f: int", "int", "f: (tuple int int)", "(tuple int int)")
	typed(t, `(def + "") (do +) (root + int 1) (do +)`, "+: string", "string", "+: (pref int)", "(pref int)")
}

// P13.1: what is bound for all types, and what isn't.
func TestValues(t *testing.T) {
	// What is a value is of any type.
	for _, e := range []string{"Nil", "(Some Nil)", "(tuple Nil 1)", "(tuple 1.5 () \"\" (Two Nil None) +)", "(fn (x) Nil)", "(fn (x) (seq Nil))", "(fn (x) (raise Div))", "(Some (tuple 1 (Some (Two Nil 1))))"} {
		marked(t, api.OK, lists+"(def x "+e+") (do (tuple "+as("x", e, "1")+as("x", e, `""`)+"))")
		marked(t, api.OK, lists+"(do (let x "+e+" (tuple "+as("x", e, "1")+as("x", e, `""`)+")))")
	}
	for src, want := range map[string]string{
		"(let i (fn (x) x) (tuple (i 1) (i \"\")))":                              "(tuple int string)",
		"(rec i (fn (x) x) (tuple (i 1) (i \"\")))":                              "(tuple int string)",
		"(let n (Some Nil) (tuple (Cons n Nil) n))":                              "(tuple (list (o (list 'a))) (o (list 'b)))",
		"(fn (x) (let y x (tuple y y)))":                                         "(-> 'a (tuple 'a 'a))",
		"(fn (x) (let f (fn (y) (tuple x y)) (tuple (f 1) (f \"\"))))":           "(-> 'a (tuple (tuple 'a int) (tuple 'a string)))",
		"(fn (x) (let y x (let x 1 (let z (fn (q) y) (tuple (z 1) (z \"\"))))))": "(-> 'a (tuple 'a 'a))",
		"(fn (x) (rec f (fn (y) x) (tuple (f 1) (f \"\"))))":                     "(-> 'a (tuple 'a 'a))",
		"(fn (x) (case x (y (let z y (tuple z z)))))":                            "(-> 'a (tuple 'a 'a))",
		"(fn (x) (let f (fn (y) (if True x y)) (tuple f (f x))))":                "(-> 'a (tuple (-> 'a 'a) 'a))",
		"(let f (let x 1 (fn (y) y)) (f 1))":                                     "int",
		"(let r (ref Nil) (seq (set r (Cons 1 Nil)) r))":                         "(ref (list int))",
		"(let f (fn (x) (ref x)) (tuple (f 1) (f \"\")))":                        "(tuple (ref int) (ref string))",
		"(let f (fn (x) x) (let g f (tuple (g 1) (g \"\"))))":                    "(tuple int string)",
		"(fn (f) (let g (fn (x) (f x)) (tuple (g 1) g)))":                        "(-> (-> int 'a) (tuple 'a (-> int 'a)))",
		// The pattern's variables have one type each.
		"(case (fn (x) x) (i (tuple (i 1) i)))": "(tuple int (-> int int))",
		"(try (fn (x) x) (e (raise e)))":        "(-> 'a 'a)",
	} {
		typed(t, lists+"(do "+src+")", want)
	}
	// What is no value is of one type; which one, may be found out later.
	for _, e := range []string{"(ref Nil)", "((fn (x) x) Nil)", "(let x 1 Nil)", "(rec f (fn (x) x) Nil)", "(if True Nil Nil)", "(seq Nil)", "(case 1 (_ Nil))", "(try Nil (_ Nil))",
		"(transact Nil)", "(raise Div)", "(Some (seq Nil))", "(tuple 1 (seq Nil))", "(Two 1 (tuple 1 (raise Div)))"} {
		marked(t, api.ErrType, lists+"(def x "+e+") (do (tuple "+as("x", e, "1")+as("^x", e, `""`)+"))")
		marked(t, api.ErrType, lists+"(do (let x "+e+" (tuple "+as("x", e, "1")+as("^x", e, `""`)+")))")
		marked(t, api.OK, lists+"(def x "+e+") (do (tuple "+as("x", e, "1")+as("x", e, "2")+"))")
	}
	marked(t, api.ErrType, `(do (let i ((fn (x) x) (fn (y) y)) (tuple (i 1) (i ^""))))`)
	marked(t, api.ErrType, `(do (rec f (fn (x) (tuple (f 1) (f ^""))) 1))`)
	marked(t, api.ErrType, `(do (fn (i) (tuple (i 1) (i ^""))))`)
	marked(t, api.ErrType, `(rec f (fn (x) (tuple (f 1) (f ^""))))`)
	marked(t, api.ErrType, `(def r (ref (fn (x) x))) (do ((get r) 1)) (do ((get r) ^""))`)
	marked(t, api.ErrType, `(def r (ref (fn (x) x))) (def f (fn (y) ((get r) y))) (do (f 1)) (do (f ^""))`)
}

// as: an expression that asks x to be of the type of e, in which a list, or what is raised, is one of this element.
func as(x, e, element string) string {
	list := "(Cons " + element + " Nil)"
	return "(if True " + strings.NewReplacer("(raise Div)", list, "Nil", list).Replace(e) + " " + x + ") "
}

// P13.1: what is asked for of expressions, and where what doesn't fit is told.
func TestWrongExpressions(t *testing.T) {
	for _, src := range []string{
		"^x", "(fn (x) ^y)", "(let x 1 ^y)", "(let x ^x 1)", "(let _ ^x 1)", "(seq (let x 1 x) ^x)", "(seq (fn (x) x) ^x)", "(rec f (fn (x) x) ^x)", "(seq (rec f (fn (x) x) 1) ^f)",
		"(case 1 (x 1) (_ ^x))", "(try (seq 1) (x 1) (_ ^x))", "(tuple (case 1 (x x)) ^x)",
		"^Foo", "^(Foo 1)", "^(Foo y)", "^(Div 1)", "^Fail", `^(Fail "" "")`, "^Cons", "^(Cons 1)", "^(Cons 1 Nil Nil)", "^(Nil 1)", "^(Cons y)",
		"(Cons 1 ^1)", "(Cons 1 ^(Cons \"\" Nil))", "(Fail ^1)", "(Cons ^y 1)", "(Two (Cons 1 ^2) y)",
		"(1 ^2)", "(neg ^\"\")", "(neg 1 ^2)", "(+ ^nan 1)", "(+ 1 ^nan)", "(+ 1 2 ^3)", "(^x 1)", "(neg ^x)", "((fn (x) 1) 1 ^x)", "(fn (x) (x ^x))", "(\"\" ^y)", "(neg ^\"\" y)",
		"^(rec f (fn (x) f) 1)", "^(rec f (fn (x) (seq (+ f 1) x)) y)", "(rec f (fn (x) ^y) 1)", "(rec f (fn (x) 1) (f 1 ^2))",
		"(if ^1 x y)", "(if ^x 1 2)", "(if True ^x y)", "(if True 1 ^x)", "(if True 1 ^\"\")", "(if ^() 1 2)", "(fn (x) (if x 1 ^x))",
		"(seq 1 ^x y)", "(tuple 1 ^x y)",
		"(case ^x (1 y))", "(case 1 (^\"\" x))", "(case 1 (^() 1))", "(case \"\" (^1 1))", "(case 1 (^(tuple a b) 1))", "(case (tuple 1 2) (^(tuple a b c) 1))", "(case 1 (^Nil x))",
		"(case Nil (Nil ^x) (1 1))", "(case Nil (Nil 1) (^1 x))", "(case 1 (1 1) (2 ^\"\") (3 x))", "(case 1 (1 1) (2 2) (3 ^\"\"))", "(case 1 (_ 1) (_ (+ 1 ^x)))", "(fn (x) (case x (1 1) (^\"\" 2)))",
		"(case 1 (^Foo 1))", "(case 1 (^(Foo x) 1))", "(case 1 (^(Nil x) 1))", "(case 1 (^(Cons x) 1))", "(case Nil ((Cons 1 ^1) 1))", "(case Nil ((Cons 1 ^(Cons \"\" _)) 1))",
		"(case 1 ((tuple ^Foo 1) 1))", "(case 1 (^(tuple 1 2) Foo))", "(case (Cons 1 Nil) (^(Cons \"\" _) 1))", "(case 1 (^(Cons x y) (+ x y)))",
		"(try ^x (Div 1))", "(try 1 (^1 x))", "(try 1 (^True 1))", "(try 1 (Div ^x))", "(try 1 (Div ^\"\"))", "(try 1 (Div 2) (^\"\" x))", "(try 1 ((Fail ^1) 1))", "(try 1 (Div 2) (_ ^nan) (1 1))", "(try 1 (^Nil \"\"))",
		"(raise ^1)", "(raise ^x)", "(raise ^\"\")", "(raise (Fail ^1))", "(fn (x) (tuple (+ x 1) (raise ^x)))", "(transact ^x)", "(transact (+ 1 ^\"\"))",
		"(Some (fn (x) (x ^x)))", "(let f (fn (x) (x ^x)) 1)",
	} {
		marked(t, api.ErrType, lists+"(do "+src+")")
		marked(t, api.ErrType, lists+"(def a 1) (def f "+src+") (do z)")
		marked(t, api.ErrType, lists+"(root r int "+src+")")
		marked(t, api.ErrType, lists+"(do (tuple 1 "+src+" Foo))")
	}
	for _, src := range []string{"(do ^f) (def f 1)", "(def f ^f)", "(do ^r) (root r int 1)", "(root r int ^r)", "(do ^Nil) (data list () (Nil))", "(do (seq (fn (x) 1) 1)) (do ^x)", "(rec f (fn (x) (f x))) (do ^x)",
		"^(rec f (fn (x) f))", "^(rec f (fn (x) (+ f 1)))", "(rec f (fn (x) ^g)) (def g 1)", "(def f (rec g (fn (x) x) g)) (do ^g)", "(do (case 1 (x x))) (do ^x)"} {
		marked(t, api.ErrType, strings.Replace(src, "(+ f 1)", "(seq (f 1) (+ (f 2) 1) neg)", 1))
	}
}

// P13.1: Datas.
func TestDatas(t *testing.T) {
	typed(t, "(data t () (A) (B int float string unit bool exn t (tuple t t))) (data u ('a 'b) (C (-> 'a (ref 'b)) (pref (u 'b t)))) (do (fn (x y) (C x y)))",
		"(-> (-> 'a (ref 'b)) (-> (pref (u 'b t)) (u 'a 'b)))")
	typed(t, "(data t ('x 'y 'x1) (A 'x1 'x 'y)) (do (A 1 2.5 ()))", "(t float unit int)")
	typed(t, "(data n ('f) (N (-> (n 'f) 'f))) (do (fn (x) (case x ((N f) (f x)))))", "(-> (n 'a) 'a)")
	typed(t, "(data t ('a) (A (t (t 'a))) (E)) (do (A E)) (do (A (A E)))", "(t 'a)", "(t 'a)")
	typed(t, "(data phantom ('a) (P)) (do (tuple P P))", "(tuple (phantom 'a) (phantom 'b))")
	for _, src := range []string{
		"^(data int () (A))", "^(data float () (A))", "^(data string () (A))", "^(data unit () (A))", "^(data bool () (A))", "^(data exn () (A))", "(data t () (A)) ^(data t () (B))",
		"^(data int ('a 'a) (Div foo))", "^(data t ('a 'a) (A))", "^(data t ('a 'b 'c 'b) (Div foo))",
		"(data t () ^(True))", "(data t () ^(Fail))", "(data t () ^(Keep foo))", "(data t () (A) ^(A))", "(data t () (A) (B) ^(A foo))", "(data t () (A)) (data u () (B) ^(A))",
		"(data t () (A ^'a))", "(data t ('a) (A 'a ^'b))", "(data t ('a) (A (-> 'a ^'b)))", "(data t () (A ^foo))", "(data t () (A ^(foo 'a)))", "(data t () (A ^t'))",
		"(data t () (A ^(int int)))", "(data t () (A ^(exn t)))", "(data t () (A ^(t t)))", "(data t ('a) (A ^t))", "(data t ('a) (A ^(t 'a 'a)))", "(data t ('a 'b) (A (t 'a 'b)) (B ^(t 'a)))",
		"(data t () (A (tuple int (ref (pref (-> int ^foo))))))", "(data t () (A (tuple ^foo bar)))", "(data t () (A ^(t foo)))",
		"(data t () (A int ^foo) (Div))", "(data t () (A ^foo) (A))", "(data t () (A ^u)) (data u () (B))", "(data t ('a) (A (t ^u))) (data u () (B))",
		"(data t () (A (-> int int ^foo)))", "(data t () (A (-> ^foo int bar)))", "(data t () (A ^(bool 'a)))",
	} {
		marked(t, api.ErrType, src)
		marked(t, api.ErrType, "(do 1) "+src+" (do x)")
	}
}

// P13.1: Roots.
func TestRoots(t *testing.T) {
	typed(t, lists+"(root r int 1) (root s (pref int) r) (root t (list (o string)) Nil) (root u (-> int (-> int int)) +) (root v (ref unit) (ref ())) (do (tuple r t))",
		"r: (pref int)", "s: (pref (pref int))", "t: (pref (list (o string)))", "u: (pref (-> int (-> int int)))", "v: (pref (ref unit))", "(tuple (pref int) (pref (list (o string))))")
	typed(t, "(root r (-> int int) (fn (x) x)) (do (load r))", "r: (pref (-> int int))", "(-> int int)")
	typed(t, "(def f (ref (fn (x) x))) (root r (ref (-> int int)) f)", "f: (ref (-> int int))", "r: (pref (ref (-> int int)))")
	typed(t, "(def r 1) (root r int r) (def r (load r)) (do r)", "r: int", "r: (pref int)", "r: int", "int")
	for _, src := range []string{
		"(root r int 1) ^(root r int 1)", "(root r int 1) ^(root r foo x)", "(root r ^'a 1)", "(root r (-> int (o ^'b)) x)", "(root r ^foo x)", "(root r ^(foo int) x)", "(root r ^o x)", "(root r (o ^foo) x)", "(root r ^(int int) x)",
		"(root r int ^x)", "(root r int (+ 1 ^nan))", "^(root r int \"\")", "^(root r (o int) (Some \"\"))", "^(root r (-> int string) (fn (x) x))", "(root r ^u 1) (data u () (U))", "^(root r (o (o int)) (Some 1))",
		"(def f (ref (fn (x) x))) (root r (ref (-> int int)) f) ^(root s (ref (-> unit unit)) f)", "(root r int 1) (do (+ 1 ^r))", "^(root r (tuple int int int) (tuple 1 2))",
	} {
		marked(t, api.ErrType, lists+src)
		marked(t, api.ErrType, lists+src+" (do x)")
	}
}

// P13.1: no expression or pattern has a type of more than 1000 parts.
func TestBig(t *testing.T) {
	value, pattern, typ := ofValues.sized, ofPatterns.sized, ofTypes.sized
	typed(t, lists+"(do "+value(1000)+")", typ(1000))
	typed(t, lists+"(do (case "+value(1000)+" ("+pattern(1000)+" 1)))", "int")
	typed(t, lists+"(def x "+value(999)+") (do (Some x))", "x: "+typ(999), "(o "+typ(999)+")")
	typed(t, lists+"(do (fn (x) "+value(998)+"))", "(-> 'a "+typ(998)+")")
	typed(t, lists+"(do (fn (x) (x "+value(996)+")))", "(-> (-> "+typ(996)+" 'a) 'a)")
	typed(t, lists+"(rec f (fn (x) "+value(998)+"))", "f: (-> 'a "+typ(998)+")")
	typed(t, lists+"(root r "+typ(999)+" "+value(999)+")", "r: (pref "+typ(999)+")")
	for _, src := range []string{
		"(do ^" + value(1001) + ")", "(do (seq ^" + value(1001) + " x))", "(do (Some ^" + value(1001) + "))", "(do ^(Some " + value(1000) + "))", "(def x " + value(1000) + ") (do (seq x ^(Some x)))",
		"(do (case (raise Div) (^" + pattern(1001) + " x)))", "(do (case 1 (^" + pattern(1001) + " x)))", "(do (try 1 (^" + pattern(1001) + " x)))", "(do (case 1 ((Some ^" + pattern(1001) + ") x)))",
		"(do (case 1 (^(Some " + pattern(1000) + ") x)))", "(do ^(fn (x) " + value(999) + "))", "(do (fn (y) ^(fn (x) " + value(999) + ")))", "(do (let f (fn (x) " + value(998) + ") (let g ^(fn (x) f) x)))",
		// Where two are made one: at the place that is told if they never can be.
		"(do (fn (x) (x ^" + value(999) + ")))", "(do ^(fn (x) (x " + value(998) + ")))", "(do (ref ^" + value(1000) + "))",
		"(do ^(tuple " + value(500) + " " + value(500) + "))", "(do (seq ((fn (x) 1) " + value(1000) + ") (ref ^" + value(1000) + ")))",
	} {
		marked(t, api.ErrBig, lists+src)
	}
	// A type may become too big behind what it is the type of.
	grown := "(def r (ref None)) (def s (tuple r r)) (do (set r (Some " + value(600) + ")))"
	marked(t, api.ErrBig, lists+grown)
	marked(t, api.ErrBig, lists+grown+" (do ^s)")
	marked(t, api.ErrType, lists+grown+" (do ^x)")
	marked(t, api.ErrBig, lists+"^(rec f (fn (x y) (f "+value(600)+" "+value(600)+")))")
	marked(t, api.ErrBig, lists+"(do (tuple ^(rec f (fn (x y) (f "+value(600)+" "+value(600)+")) z) z))")
	typed(t, lists+"(rec f (fn (x y) (f "+value(498)+" "+value(498)+")))", "f: (-> "+typ(498)+" (-> "+typ(498)+" 'a))")
	// (root ..) of more: Unify may answer to it, or what was found out at last.
	marked(t, api.ErrBig, lists+"(root r "+typ(1000)+" "+value(1000)+")")
	marked(t, api.ErrBig, lists+"^(root r "+typ(1001)+" (raise Div))")
	marked(t, api.ErrType, lists+"^(root r "+typ(1001)+" 1)")
	marked(t, api.ErrBig, lists+"(root r (tuple "+typ(900)+" "+typ(900)+") (let x (raise Div) (tuple (raise Div) (raise Div))))")
	marked(t, api.ErrBig, lists+"(root r (tuple "+typ(900)+" "+typ(900)+") (tuple (raise Div) (raise Div))) (do ^r)")
	wide := func(part string) string {
		return "(tuple" + strings.Repeat(" (tuple "+strings.Repeat(part+" ", 4)+")", 3) + ")"
	}
	marked(t, api.ErrBig, "(data o ('a) (Some 'a)) (root r "+wide(typ(800))+" (let x (raise Div) "+wide("x")+"))")
	marked(t, api.ErrBig, "(data o ('a) (Some 'a)) ^(root r "+wide(typ(920))+" (let x (raise Div) "+wide("x")+"))")
}

// P13.1: variables of a type of more than 1000 parts don't count: what has one of them is bound for all types.
func TestTooBigToCount(t *testing.T) {
	value := ofValues.sized
	// Of the pair in r the first part's type is open still, when the second one's is found out by k.
	src := func(parts int) string {
		return lists + `(do (let r (ref (tuple None None)) (let first (fn (_) (case (get r) ((tuple a _) a))) (let k (ref None) (seq
 (fn (_) (set r (tuple None (get k))))
 (set k (Some ` + value(parts) + `))
 (let z (fn (_) (first ())) (tuple (fn (_) (if True (z 1) (Some 1))) (fn (_) (if True (z 1) ^(Some ""))))))))))`
	}
	marked(t, api.ErrType, src(900))
	typed(t, strings.Replace(src(998), "^", "", 1), "(tuple (-> 'a (o int)) (-> 'b (o string)))")
}

// P1: nodes that Program of layer 11 never makes are answered, too.
func TestAnyNodes(t *testing.T) {
	deep := parse.Node{Op: parse.Int}
	for range 70000 {
		deep = parse.Node{Op: parse.Seq, Kids: []parse.Node{deep}}
	}
	endless := make([]parse.Node, 2)
	endless[1] = parse.Node{Op: parse.Seq, Kids: endless}
	for _, l := range [][]parse.Node{{deep}, {{Op: parse.Do, Kids: []parse.Node{deep}}}, endless, {{Op: parse.Data, Kids: endless}}} {
		if b, at, e := infer.Program(l...); e != api.ErrBig || at != (api.Pos{}) || b != nil {
			t.Errorf("%d at %v", e, at)
		}
		infer.Cons(l...)
	}
	d := dice(13)
	var node func(depth int) parse.Node
	node = func(depth int) parse.Node {
		n := parse.Node{Op: d.below(50) - 1, At: api.Pos{Line: d.below(9)}, Num: d.below(3), Text: pick(&d, "", "x", "Some", "o", "int", "->", "tuple", "'a", "_")}
		if depth > 0 {
			for range d.below(4) {
				n.Kids = append(n.Kids, node(depth-1))
			}
		}
		return n
	}
	for range 20000 {
		l := []parse.Node{node(3), node(4)}
		b, at, e := infer.Program(l...)
		if e != api.OK && (b != nil || e != api.ErrType && e != api.ErrBig) || e == api.OK && at != (api.Pos{}) {
			t.Fatalf("%v: %v, %d at %v", l, b, e, at)
		}
		infer.Cons(l...)
	}
}
