"""The part of Python that the package keeps to, as far as a walk over its files can tell it."""

import ast
import builtins
import pathlib
import re
import unittest

PACKAGE = pathlib.Path(__file__).resolve().parent.parent / "evenlight"

NODES = """Module Expr Constant ImportFrom alias FunctionDef arguments arg Return Assign AugAssign If While For Break
Continue Pass Raise Name Load Store List Tuple Dict Subscript Slice Attribute Call keyword Compare BoolOp And Or
UnaryOp Not USub Invert BinOp Add Sub Mult FloorDiv Mod Pow BitAnd BitOr BitXor LShift RShift IfExp ListComp
comprehension Eq NotEq Lt LtE Gt GtE In NotIn Is IsNot Lambda""".split()

OWN_NAMES = """len range enumerate zip min max sum abs sorted reversed int str bool list tuple dict isinstance ord repr any
all divmod""".split()

METHODS = """append clear copy count endswith extend find get index insert items join keys pop remove reverse setdefault
split startswith strip update values bit_length""".split()

WORDS_NOWHERE = """type typing typing_extensions enum Enum IntEnum StrEnum Flag IntFlag Generic Protocol ABC ABCMeta
namedtuple NamedTuple TypedDict TYPE_CHECKING abstractmethod""".split()


def package_files():
    return sorted(path for path in PACKAGE.rglob("*") if path.is_file() and "__pycache__" not in path.parts)


def bound_names(tree):
    names = set()
    for node in ast.walk(tree):
        if isinstance(node, ast.FunctionDef):
            names.add(node.name)
        elif isinstance(node, ast.arg):
            names.add(node.arg)
        elif isinstance(node, ast.alias):
            names.add(node.asname or node.name)
        elif isinstance(node, ast.Name) and isinstance(node.ctx, ast.Store):
            names.add(node.id)
    return names


class FormTest(unittest.TestCase):
    def each_file(self):
        return [(path.name, path.read_text(encoding="utf-8")) for path in package_files()]

    def each_tree(self):
        return [(name, ast.parse(text)) for name, text in self.each_file()]

    def test_files(self):
        names = [path.name for path in package_files()]
        self.assertIn("__init__.py", names)
        self.assertIn("light.py", names)
        for name in names:
            self.assertRegex(name, r"\A[a-z0-9_]+\.py\Z")

    def test_signs_rows_and_words(self):
        for name, text in self.each_file():
            self.assertRegex(text, r"\A[ -~\n]*\Z", name)
            rows = text.split("\n")
            self.assertTrue(len(rows) <= 400, name)
            self.assertTrue(max(len(row) for row in rows) <= 120, name)
            for word in WORDS_NOWHERE:
                self.assertIsNone(re.search(rf"\b{word}\b", text), (name, word))

    def test_size_of_functions(self):
        for name, tree in self.each_tree():
            for node in ast.walk(tree):
                if isinstance(node, ast.FunctionDef):
                    self.assertTrue(node.end_lineno - node.lineno < 40, (name, node.name))

    def test_statements_and_expressions(self):
        for name, tree in self.each_tree():
            for node in ast.walk(tree):
                where = (name, getattr(node, "lineno", 0))
                self.assertIn(type(node).__name__, NODES, where)
                if isinstance(node, (ast.For, ast.While)):
                    self.assertEqual(node.orelse, [], where)
                if isinstance(node, ast.Assign):
                    self.assertEqual(len(node.targets), 1, where)
                if isinstance(node, ast.Constant):
                    self.assertIn(type(node.value), (int, str, bool, type(None)), where)
                if isinstance(node, ast.FunctionDef):
                    self.assertEqual(node.decorator_list, [], where)
                if isinstance(node, ast.arguments):
                    self.assertEqual((node.vararg, node.kwarg, node.kwonlyargs), (None, None, []), where)
                if isinstance(node, ast.ListComp):
                    self.assertEqual(len(node.generators), 1, where)

    def test_imports_are_the_package_s_own(self):
        for name, tree in self.each_tree():
            for node in ast.walk(tree):
                if isinstance(node, ast.ImportFrom):
                    self.assertEqual(node.level, 0, name)
                    self.assertTrue(node.module.startswith("evenlight."), (name, node.module))

    def test_names(self):
        for name, tree in self.each_tree():
            bound = bound_names(tree)
            for own in bound:
                self.assertRegex(own, r"\A[A-Za-z][A-Za-z0-9_]*\Z", name)
                self.assertFalse(hasattr(builtins, own), (name, own))
            for node in ast.walk(tree):
                if isinstance(node, ast.Name):
                    self.assertTrue(node.id in bound or node.id in OWN_NAMES, (name, node.lineno, node.id))
                if isinstance(node, ast.Attribute):
                    self.assertIn(node.attr, METHODS, (name, node.lineno))


if __name__ == "__main__":
    unittest.main()
